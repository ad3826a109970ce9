/- The law of rising keys; no condition but the range. -/
import Derived.Test.YtmllaighjhpbmaaLtLaw
import Derived.Test.YtmllaighjhpbmaaLtOrd
import Derived.Test.YtmllaighjhpbmaaLtDec0
namespace Go.Proofs.Ytmllaighjhpbmaa
namespace Lt
open Go.RowKit Bk

attribute [local go_sem ↓] Go.wp_at_zero Go.wp_at_succ
attribute [local go_sem] floatUpon pick

set_option maxHeartbeats 1000000 in
theorem among_any2 (x : Int) (n : Nat) (w : World) (h1 : 1 ≤ n) (h2 : n ≤ 140737488355328) :
    Calls Try.prog 25 #[.int .i64 x, .int .i64 (n : Int)] w fun e w' => e = .returned (.int .i64 ((amongV x n : Nat) : Int)) ∧ w' = w := by
  obtain ⟨e1, e2, e3⟩ := among_eq x n h1
  have e4 : ((n : Int) == 0) = false := by simp; omega
  have e6 : wrap64 (x.tmod (n : Int) + (n : Int)) = x.tmod (n : Int) + (n : Int) := IntWalk.wrap64_in _ ⟨by omega, by omega⟩
  have E : Hid ((wrap64 (x.tmod (n : Int) + (n : Int))).tmod (n : Int) = ((amongV x n : Nat) : Int)) := by
    show _ = _
    rw [e6, e1]
  clear e1 e2 e3 e6
  go_enter Try.func25, Try.ntmps25
  go_wp2
  go_ret
  exact ⟨ret_int E.out, rfl⟩

/-- an empty literal of texts -/
def S24 (b0 : Nat) (v : Value) (W : World) : Prop := ∃ g, b0 ≤ g ∧ v = .slice (some ⟨g, 0, none⟩) 0 0 ∧ W.heap[g]? = some (.cells #[] 9 (0, 0))
/-- texts of the call's own -/
def S28 (b0 : Nat) (l : List ByteArray) (v : Value) (W : World) : Prop := W.ownsRow b0 9 1 v l.length (strV l) ∧ ∃ g cap, v = .slice (some ⟨g, 0, none⟩) l.length cap
theorem S24.keep {b0 : Nat} {v : Value} {W W' : World} (h : S24 b0 v W) (hb : Below W.heap.size W W') : S24 b0 v W' := by
  obtain ⟨g, h1, h2, h3⟩ := h
  exact ⟨g, h1, h2, (hb.block g (Array.getElem?_eq_some_iff.1 h3).1).trans h3⟩
theorem S28.keep {b0 : Nat} {l : List ByteArray} {v : Value} {W W' : World} (h : S28 b0 l v W) (hb : Below W.heap.size W W') : S28 b0 l v W' := ⟨st_keep h.1 hb, h.2⟩

/-- texts that lie in a slice, as far as a walk says -/
structure Txs (w : World) (A : Option Addr) (c : Nat) (l : List ByteArray) : Prop where
  at' : StrsAt w A l
  le : l.length ≤ c
  max : c ≤ maxLen
  nil : A = none → l = [] ∧ c = 0

theorem Txs.below {w W : World} {A : Option Addr} {c : Nat} {l : List ByteArray} (h : Txs w A c l) (hb : Below w.heap.size w W) : Txs W A c l := ⟨h.at'.below hb, h.le, h.max, h.nil⟩

theorem Txs.own {w : World} {H n : Nat} {v : Value} {e : TypeId} {l : List ByteArray} (h : w.ownsRow H e 1 v n (strV l)) (hl : n = l.length) : ∃ (A : Option Addr) (c : Nat), v = .slice A n c ∧ Txs w A c l := by
  subst hl
  obtain ⟨A, c, hv, hs⟩ := strs_of_own2 h rfl
  subst hv
  rcases h.2 with ⟨h1, h2⟩ | ⟨g, cap, cur, h1, _, _, h3, h4, _⟩
  · simp only [Value.slice.injEq] at h1
    obtain ⟨rfl, hl, rfl⟩ := h1
    exact ⟨none, 0, rfl, hs, by omega, Nat.zero_le _, fun _ => ⟨List.eq_nil_of_length_eq_zero hl, rfl⟩⟩
  · simp only [Value.slice.injEq] at h1
    obtain ⟨rfl, _, rfl⟩ := h1
    exact ⟨_, _, rfl, hs, h3, h4, fun e => by cases e⟩

theorem round_succ {l : List ByteArray} {j : Nat} (h : j < l.length) : (l.take (j + 1)).reverse = l[j] :: (l.take j).reverse := by
  rw [List.take_add_one, List.getElem?_eq_getElem h]
  simp

set_option maxRecDepth 20000 in
set_option maxHeartbeats 8000000 in
theorem rising_walk (HE : EncodeAll) (HK : KeyAll) (HR : RisingAll) (v : Value) (l : List ByteArray) (x : Int) (w : World) (hv : TextsOf w v l) :
    Calls Try.prog 8 #[v, .int .i64 x] w fun e w' => e = .returned (.bool true) ∧ Below w.heap.size w w' := by
  obtain ⟨i0, hi, hz0, hz1, hz2⟩ := info_parts Try.infoStr
  obtain ⟨A, c, rfl, h2, h3, h4, h5, h6, h7⟩ := hv
  have HT := Lib.hid (show Txs w A c l from ⟨h2, h6, h7, h3⟩)
  have HWk := Lib.hid (fun W => ltworks HE HK HR W)
  have HRg := Lib.hid (fun A c m W (h : Txs W A c m) (hm : m.length ≤ l.length) (hs : ∀ s ∈ m, s ∈ l) => HR A c m W h.at' (by omega) (fun s h' => by have := h5 s (hs s h'); omega) h.le h.max h.nil)
  have HKy := Lib.hid (fun s (hs : s ∈ l) W => HK s W (by have := h5 s hs; omega))
  clear h2 h3 HK HR HE
  have HR0 := Lib.hid (fun W => HRg.out none 0 [] W ⟨nil_strs _ _, Nat.le_refl _, Nat.zero_le _, fun _ => ⟨rfl, rfl⟩⟩ (Nat.zero_le _) (fun s h => by simp at h))
  rw [risesB_true Rises.nil] at HR0
  simp only [List.length_nil] at HR0
  go_enter Try.func8, Try.ntmps8
  go_wp2_with fail
  refine (HWk.out _).mono ?_
  rintro e w2 ⟨rfl, hb⟩
  have HB2 := Lib.hid hb
  have HT2 := Lib.hid (HT.out.below hb)
  clear hb HWk HT
  by_cases h0 : l.length = 0
  · have q0 : ((l.length : Int) == 0) = true := by simp [h0]
    clear h4 h5 h6 h7
    go_wp2_with fail
    refine (HR0.out _).mono ?_
    rintro e w3 ⟨rfl, hb⟩
    have HB3 := Lib.hid (HB2.out.trans (hb.mono HB2.out.size))
    clear hb
    go_wp2_with fail
    go_ret
    exact ⟨rfl, HB3.out⟩
  have q0 : ((l.length : Int) == 0) = false := by rw [beq_eq_false_iff_ne]; omega
  have hR1 := HRg.out A c l w2 HT2.out (Nat.le_refl _) (fun s h => h)
  have HR1 := Lib.hid hR1
  clear hR1
  by_cases hr : Rises l
  case neg =>
    rw [risesB_false hr] at HR1
    go_wp2_with fail
    refine HR1.out.mono ?_
    rintro e w3 ⟨rfl, hb⟩
    have HB3 := Lib.hid (HB2.out.trans (hb.mono HB2.out.size))
    clear hb
    go_wp2_with fail
    refine (HR0.out _).mono ?_
    rintro e w4 ⟨rfl, hb⟩
    have HB4 := Lib.hid (HB3.out.trans (hb.mono HB3.out.size))
    clear hb
    go_wp2_with fail
    go_ret
    exact ⟨rfl, HB4.out⟩
  rw [risesB_true hr] at HR1
  have HRi := Lib.hid hr
  have hk1 := amongV_lt x l.length (by omega)
  have HAm := Lib.hid (fun W => among_any2 x l.length W (by omega) (by omega))
  generalize amongV x l.length = k at hk1 HAm
  go_wp2_with fail
  refine HR1.out.mono ?_
  rintro e w3 ⟨rfl, hb⟩
  have HB3 := Lib.hid (HB2.out.trans (hb.mono HB2.out.size))
  have HT3 := Lib.hid (HT2.out.below hb)
  clear hb HB2 HT2 HR1
  go_wp2_with fail
  refine (HAm.out _).mono ?_
  rintro e w4 ⟨rfl, rfl⟩
  obtain ⟨ad, rfl, hab, _⟩ := HT3.out.at' (by omega)
  obtain ⟨k1, hk⟩ : ∃ k1, k1 = k + 1 := ⟨_, rfl⟩
  obtain ⟨K8, hK8⟩ : ∃ K8 : Option Addr, (if c = k1 then some ad else some (ad.add k1)) = K8 := ⟨_, rfl⟩
  have pk : (k : Int) < (l.length : Int) := by omega
  have pkc : (k : Int) ≤ (c : Int) := by omega
  have plc : (l.length : Int) ≤ (c : Int) := by omega
  have hc0 : ¬ c = 0 := by omega
  have hw1 : IntKind.i64.wrap ((k : Int) + 1) = (k : Int) + 1 := i64_wrap (by omega) (by omega)
  have t4 : ((k : Int) + 1).toNat = k1 := by omega
  have u5 : (k : Int) + 1 ≤ (l.length : Int) := by omega
  have u6 : 0 ≤ (k : Int) + 1 := by omega
  have lt1 : (l.take k).length = k := by rw [List.length_take]; omega
  have ld1 : (l.drop k1).length = l.length - k1 := List.length_drop
  have hLs : (l.take k ++ l.drop k1).length = k + (l.length - k1) := by rw [List.length_append, lt1, ld1]
  have hlt2 : k + (l.length - k1) ≤ l.length := by omega
  have HD := Lib.hid (fun W (hb : Below w4.heap.size w4 W) => show StrsAt W K8 (l.drop k1) from by
    rw [← hK8]
    exact strs_sub (HT3.out.at'.below hb) h6)
  have HTk := Lib.hid (fun W (hb : Below w4.heap.size w4 W) => strs_take (HT3.out.at'.below hb) k)
  have HKn : Hid (K8 ≠ none) := Lib.hid (by rw [← hK8]; split <;> simp)
  have HSr := Lib.hid (rises_less hr k)
  have HRr := Lib.hid (rises_round hr (fun e => h0 (by rw [e]; rfl)))
  have HMem : Hid (∀ s ∈ l.take k ++ l.drop k1, s ∈ l) := Lib.hid (fun s hs => by
    rcases List.mem_append.1 hs with h | h
    · exact List.mem_of_mem_take h
    · exact List.mem_of_mem_drop h)
  rw [← hk] at HSr
  have HLs := Lib.hid hLs
  have HLt1 := Lib.hid lt1
  have HLd1 := Lib.hid ld1
  clear hr hLs hk lt1 ld1
  go_upto_region 6 with fail
  refine wp_region_said 9 [24, 25, 26, 27, 28, 29, 30, 31, 32]
    [.own (S24 w4.heap.size) (fun _ _ _ h hb => h.keep hb), .is (.slice (some ad) l.length c), .is (.int .i64 (k : Int)), .is (.slice (some ad) k c), .own (S28 w4.heap.size (l.take k)) (fun _ _ _ h hb => h.keep hb), .is (.slice (some ad) l.length c), .is (.int .i64 (k : Int)), .is (.int .i64 ((k : Int) + 1)), .is (.slice K8 (l.length - k1) (c - k1))]
    (fun W => Below w4.heap.size w4 W) (by kernel_rfl) (by kernel_rfl) (by kernel_rfl) (by kernel_rfl) (by kernel_rfl) (fun W W' h hb => h.trans (hb.mono h.size)) (Below.refl _ _) ?steps ?last
  case steps =>
    simp only [List.take_succ_cons, List.take_zero]
    refine ⟨?_, ?_, ?_, ?_, ?_, ?_, ?_, ?_, ?_, trivial⟩
    all_goals
      intro vs W ρ hρ hc hf hg hI hH hd R' hR
      have HR := Lib.hid hR
      have HIe := Lib.hid hI
      simp [depsOf, Region.binds, sayAt, Say.holds] at hd
      clear hR hI
    case refine_1 =>
      go_simp
      exact HR.out _ _ ⟨W.heap.size, hH, rfl, heap_alloc_new W _⟩ ((Below.refl _ _).alloc (Nat.le_refl _) _) (fun h => by cases h)
    case refine_5 =>
      obtain ⟨⟨g, hg1, hg2, hg3⟩, hv2⟩ := hd
      obtain ⟨v', w', hr, h2, h3, g', cap, h4', _⟩ := run_append_empty (P := Try.prog) W w4.heap.size 22 22 9 i0 (.string ⟨#[]⟩) 16 Try.underlying22 hi hz0 hz1 hz2 rfl g hg3 hg1 (some ad) k c (strV (l.take k)) (by rw [strV_len, HLt1.out]) (fun e => by cases e) (fun ad' e => by obtain rfl := Option.some.inj e; exact StrsAt.news (HTk.out W HIe.out)) (fun u hu => by obtain ⟨y, _, rfl⟩ := List.mem_map.1 hu; rfl) (by unfold maxLen; omega) (by omega)
      have e0 : ρ (.tmp 24) = .slice (some ⟨g, 0, none⟩) 0 0 := by rw [hρ]; simp [pick, hg2]
      have e2 : ρ (.tmp 27) = .slice (some ad) k c := by rw [hρ]; simp [pick, hv2]
      rw [if_pos (by simp [Region.wanted])]
      unfold execOp
      simp only [resolve, invoke, builtin, Sem.run_bind, Sem.run_pure, Result.andThen_ok, List.map_toArray, List.map_cons, List.map_nil, e0, e2, hr, floatUpon]
      exact HR.out _ _ ⟨by rw [HLt1.out]; exact h2, g', cap, by rw [HLt1.out]; exact h4'⟩ h3 (fun h => by cases h)
    all_goals
      go_simp
      first
        | exact HR.out _ _ (by simp [sayAt, Say.holds]) (Below.refl _ _) (by simp [sayAt, Say.isBlk])
        | trace_state
  case last =>
    intro vs W hI hb hg hd
    obtain ⟨r4, gg, cap4, g4⟩ := hg 4 (by omega)
    have g8 := hg 8 (by omega)
    simp only [sayAt, Say.holds, List.getD_cons_succ, List.getD_cons_zero] at g8
    simp only [List.take_succ_cons, List.take_zero, List.drop_succ_cons, List.drop_zero, putAll, Act.put, List.setIfInBounds_toArray, List.set_cons_succ, List.set_cons_zero, Nat.zero_add, Nat.reduceAdd]
    rw [g4] at r4
    rw [g4, g8]
    rw [HLt1.out] at r4 ⊢
    have HI := Lib.hid hI
    clear hg hd hb hI g4 g8
    refine wpList_append_opt rfl _ _ 22 rfl w4.heap.size 9 i0 (.string ⟨#[]⟩) 16 Try.underlying22 hi hz0 hz1 hz2 rfl _ k _ rfl r4 K8 (l.length - k1) (c - k1) (strV (l.drop k1)) rfl (by rw [strV_len, HLd1.out]) (fun e => absurd e HKn.out) ?c1 ?c2 ?c3 ?c4 HI.out.size ?_
    case c1 => exact fun ad' e => by subst e; exact StrsAt.news (HD.out W HI.out)
    case c2 => intro u hu; obtain ⟨y, _, rfl⟩ := List.mem_map.1 hu; rfl
    case c3 => unfold maxLen; omega
    case c4 => omega
    intro v' w5 ho hgr hat
    have ho2 : w5.ownsRow w4.heap.size 9 1 v' (k + (l.length - k1)) (strV (l.take k ++ l.drop k1)) := by
      have e : strV (l.take k ++ l.drop k1) = strV (l.take k) ++ strV (l.drop k1) := by simp [strV]
      rw [e]; exact ho
    obtain ⟨A5, c5, rfl, hT5⟩ := Txs.own ho2 HLs.out.symm
    have HB5 := Lib.hid (HB3.out.trans ((HI.out.grown hgr HI.out.size (fun k hk => (r4.lt k hk).1)).mono HB3.out.size))
    have hbw := HI.out.grown hgr HI.out.size (fun k hk => (r4.lt k hk).1)
    have HTl := Lib.hid (HT3.out.below hbw)
    have HT5 := Lib.hid hT5
    clear ho ho2 hgr hat r4 hT5 hbw HI HD HTk HB3 HT3
    go_wp2_with fail
    go_loopw [6, 36] (fun u i wr => ∃ (j : Nat) (A6 : Option Addr) (c6 : Nat), j ≤ l.length ∧ u = .slice A6 j c6 ∧ i = .int .i64 (j : Int) ∧ Hid (Txs wr A6 c6 (l.take j).reverse) ∧ Hid (Below w5.heap.size w5 wr)) (fun _ i _ => l.length - (intOf i).toNat)
    case atStart => exact ⟨0, none, 0, by omega, rfl, rfl, ⟨nil_strs _ _, by simp, Nat.zero_le _, fun _ => ⟨by simp, rfl⟩⟩, Below.refl _ _⟩
    case round =>
      obtain ⟨j, A6, c6, hj, rfl, rfl, hT6, hbel⟩ := hrel
      by_cases hlt : j < l.length
      · have pj : (j : Int) < (l.length : Int) := by omega
        obtain ⟨ad', e', _, hcl⟩ := (HTl.out.below hbel.out).at' (by omega)
        obtain rfl := Option.some.inj e'
        have x1 := hcl j hlt
        have hkey := (rises_iff.1 HRi.out).1 l[j] (List.getElem_mem hlt)
        have hK1 := HKy.out l[j] (List.getElem_mem hlt)
        rw [decide_eq_true hkey] at hK1
        have HK1 := Lib.hid (fun W => hK1 W)
        have HRs := Lib.hid (round_succ hlt)
        have hlr : (l.take j).reverse.length = j := by rw [List.length_reverse, List.length_take]; omega
        generalize l[j] = s at *
        clear hcl e' hkey hK1
        go_wp2_with fail
        refine (HK1.out _).mono ?_
        rintro e w6 ⟨rfl, hb⟩
        have HBl6 := Lib.hid (hbel.out.trans (hb.mono hbel.out.size))
        have hT6b := hT6.out.below hb
        have HT6 := Lib.hid hT6b
        clear hb hbel hT6 hT6b x1
        have hOl : (w6.alloc (.cells #[.string s] 9)).ownsRow w6.heap.size 9 1 (.slice (some ⟨w6.heap.size, 0, none⟩) 1 1) 1 (strV [s]) :=
          ⟨rfl, .inr ⟨w6.heap.size, 1, _, rfl, Nat.le_refl _, (blk1 _ _).2, Nat.le_refl _, by unfold maxLen; omega, rfl, rfl⟩⟩
        have HOl := Lib.hid hOl
        have HA6 := Lib.hid (show A6 = none → j = 0 ∧ c6 = 0 from fun e => by
          obtain ⟨h1, h2⟩ := HT6.out.nil e
          rw [h1] at hlr
          exact ⟨by simpa using hlr.symm, h2⟩)
        have HLr := Lib.hid hlr
        clear hOl hlr
        go_wp2_with (at_builtin; refine wpList_append_opt rfl _ _ 22 rfl w6.heap.size 9 i0 (.string ⟨#[]⟩) 16 Try.underlying22 hi hz0 hz1 hz2 rfl _ 1 _ rfl HOl.out A6 j c6 (strV (l.take j).reverse) rfl (by rw [strV_len, HLr.out]) HA6.out ?d1 ?d2 ?d3 ?d4 (by simp) ?_)
        case d1 => exact fun ad' e => by subst e; exact (HT6.out.at'.alloc _).news
        case d2 => intro u hu; obtain ⟨y, _, rfl⟩ := List.mem_map.1 hu; rfl
        case d3 => unfold maxLen; omega
        case d4 => omega
        intro v' w7 ho hgr hat
        have ho2 : w7.ownsRow w6.heap.size 9 1 v' (1 + j) (strV (l.take (j + 1)).reverse) := by
          have e : strV (l.take (j + 1)).reverse = strV [s] ++ strV (l.take j).reverse := by rw [HRs.out]; simp [strV]
          rw [e]; exact ho
        obtain ⟨A7, c7, rfl, hT7⟩ := Txs.own ho2 (by rw [HRs.out, List.length_cons, HLr.out]; omega)
        have HB7 := Lib.hid (HBl6.out.trans ((((Below.refl _ w6).alloc (Nat.le_refl _) (.cells #[.string s] 9)).grown hgr (by simp) (fun k hk => (HOl.out.lt k hk).1)).mono HBl6.out.size))
        have HT7 := Lib.hid hT7
        clear ho ho2 hgr hat hT7 HOl HT6 HBl6 HA6
        rw [Nat.add_comm 1 j]
        go_wp2_with fail
        go_roundw
        case rel => exact ⟨j + 1, A7, c7, by omega, rfl, by go_num, HT7.out, HB7.out⟩
        case measure => simp [intOf]; omega
      · obtain rfl : j = l.length := by omega
        have hT6b := hT6.out
        rw [List.take_length] at hT6b
        have hR1 := HRg.out A5 c5 _ wr (HT5.out.below hbel.out) (by rw [HLs.out]; exact hlt2) HMem.out
        rw [risesB_true HSr.out, HLs.out] at hR1
        have HR1 := Lib.hid hR1
        have HR2 := Lib.hid (fun W (hb : Below wr.heap.size wr W) => HRg.out A6 c6 l.reverse W (hT6b.below hb) (by simp) (fun s hs => List.mem_reverse.1 hs))
        rw [HRr.out, List.length_reverse] at HR2
        have HB6 := Lib.hid (HB5.out.trans (hbel.out.mono HB5.out.size))
        have qd : ((l.length : Int) == 1) = decide (l.length = 1) := by
          by_cases h : l.length = 1
          · simp [h]
          · rw [decide_eq_false h, beq_eq_false_iff_ne]; omega
        generalize decide (l.length = 1) = b1 at *
        clear hT6 hT6b hR1 hbel HT5 HTl HMem HLs HSr HRr
        go_wp2_with fail
        refine HR1.out.mono ?_
        rintro e w8 ⟨rfl, hb⟩
        have HB8 := Lib.hid (HB6.out.trans (hb.mono HB6.out.size))
        have HR2' := Lib.hid (HR2.out w8 hb)
        clear hb HR1 HR2
        go_wp2_with fail
        refine HR2'.out.mono ?_
        rintro e w9 ⟨rfl, hb⟩
        have HB9 := Lib.hid (HB8.out.trans (hb.mono HB8.out.size))
        clear hb HR2'
        go_wp2_with fail
        go_ret
        exact ⟨by simp, HB9.out⟩

end Lt
end Go.Proofs.Ytmllaighjhpbmaa
