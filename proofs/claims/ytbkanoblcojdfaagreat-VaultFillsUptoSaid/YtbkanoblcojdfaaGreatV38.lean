/- Parts of the proof, joined: ShL19, ShL20; their conditions stand with each. -/
import Derived.Test.YtbkanoblcojdfaaGreatV14
import Derived.Test.YtbkanoblcojdfaaGreatV37

set_option maxRecDepth 20000
set_option maxHeartbeats 8000000
namespace Go.Proofs.YtbkanoblcojdfaaGreat
namespace Sh
open Go.RowKit Bk Ch Lt Rc Tr
attribute [local go_sem ↓] Go.wp_at_zero Go.wp_at_succ
attribute [local go_sem] floatUpon pick
theorem perm_lift {α β : Type} {f : α → β} : ∀ {m : List β} {l : List α}, (l.map f).Perm m → ∃ l' : List α, l'.Perm l ∧ l'.map f = m
  | [], l, h => by
    have : l = [] := by simpa using h.length_eq
    subst this
    exact ⟨[], List.Perm.refl _, rfl⟩
  | a :: m, l, h => by
    have ha : a ∈ l.map f := h.symm.subset (List.mem_cons_self ..)
    obtain ⟨x, hx, rfl⟩ := List.mem_map.1 ha
    obtain ⟨s, t, rfl⟩ := List.append_of_mem hx
    have h2 : ((s ++ t).map f).Perm m := by
      have h3 : ((s ++ x :: t).map f).Perm (f x :: (s ++ t).map f) := (List.perm_middle (l₁ := s) (l₂ := t) (a := x)).map f
      exact List.Perm.cons_inv (h3.symm.trans h)
    obtain ⟨l', h4, h5⟩ := perm_lift h2
    exact ⟨x :: l', (h4.cons x).trans List.perm_middle.symm, by rw [List.map_cons, h5]⟩
theorem done_perm {K done : List KI} (hn : ((K.map kp).map (·.1)).Nodup) (hsub : ∀ x ∈ done, x ∈ K) (hp : (done.map kp).Perm (K.map kp)) : done.Perm K := by
  have hn2 : (K.map (fun x => x.k.name)).Nodup := by rw [List.map_map] at hn; exact hn
  have hp2 : (done.map (fun x => x.k.name)).Perm (K.map (fun x => x.k.name)) := by
    have := hp.map (·.1)
    rw [List.map_map, List.map_map] at this
    exact this
  have nd : ∀ {L : List KI}, (L.map (fun x => x.k.name)).Nodup → L.Nodup := fun {L} h => List.Pairwise.of_map (fun x => x.k.name) (fun a b hab e => hab (by rw [e])) h
  refine (List.perm_ext_iff_of_nodup (nd (hp2.nodup_iff.2 hn2)) (nd hn2)).2 fun x => ⟨hsub x, fun hx => ?_⟩
  obtain ⟨y, hy, e⟩ := List.mem_map.1 (hp2.symm.subset (List.mem_map_of_mem hx))
  rw [← one_key hn (hsub y hy) hx e]
  exact hy
theorem done_permP {P done : List RI} (hn : ((P.map pp).map (·.1)).Nodup) (hsub : ∀ x ∈ done, x ∈ P) (hp : (done.map pp).Perm (P.map pp)) : done.Perm P := by
  have hn2 : (P.map (fun x => x.l.txn)).Nodup := by rw [List.map_map] at hn; exact hn
  have hp2 : (done.map (fun x => x.l.txn)).Perm (P.map (fun x => x.l.txn)) := by
    have := hp.map (·.1)
    rw [List.map_map, List.map_map] at this
    exact this
  have nd : ∀ {L : List RI}, (L.map (fun x => x.l.txn)).Nodup → L.Nodup := fun {L} h => List.Pairwise.of_map (fun x => x.l.txn) (fun a b hab e => hab (by rw [e])) h
  refine (List.perm_ext_iff_of_nodup (nd (hp2.nodup_iff.2 hn2)) (nd hn2)).2 fun x => ⟨hsub x, fun hx => ?_⟩
  obtain ⟨y, hy, e⟩ := List.mem_map.1 (hp2.symm.subset (List.mem_map_of_mem hx))
  rw [← one_txn hn (hsub y hy) hx e]
  exact hy
theorem sweepK_perm {a b : List Kc} (h : a.Perm b) (t : Int) : (sweepK a t).Perm (sweepK b t) := (h.map _).filter _
theorem sweepK_snoc (a : List Kc) (x : Kc) (t : Int) : sweepK (a ++ [x]) t = sweepK a t ++ (if (sweepL x.l t).isEmpty then [] else [⟨x.name, sweepL x.l t⟩]) := by
  unfold sweepK
  rw [List.map_append, List.filter_append]
  congr 1
  cases h : (sweepL x.l t).isEmpty <;> simp [h]
theorem own_keep {V w' : World} {H sz n b : Nat} {v : Value} {e : TypeId} {xs : List Value} (h : V.ownsRow H e sz v n xs) (hb : ∀ cs t f, V.heap[b]? ≠ some (.cells cs t f)) (hk : ∀ k, k < V.heap.size → k ≠ b → w'.heap[k]? = V.heap[k]?) : w'.ownsRow H e sz v n xs := by
  rcases h with ⟨hl, h0 | ⟨i, cap, cur, hv, hbb, hgt, rest⟩⟩
  · exact ⟨hl, .inl h0⟩
  · refine ⟨hl, .inr ⟨i, cap, cur, hv, hbb, (hk i (Array.getElem?_eq_some_iff.1 hgt).1 (fun e => ?_)).trans hgt, rest⟩⟩
    subst e
    exact hb _ _ _ hgt
theorem RangeIs.iter {P : Program} {k : TypeId} {α : Type} {Q : KeyT P k α} {w : World} {b r : Nat} {m todo : List (α × Value)} (h : RangeIs Q w b r m todo) : ∀ cs t f, w.heap[r]? ≠ some (.cells cs t f) := fun cs t f e => by
  obtain ⟨D, left, cnt, ⟨es, clock, since, seen, c0, _, _, _, _, h2, _⟩, _⟩ := h
  rw [h2] at e; cases e
theorem MapIs.nocells {P : Program} {k : TypeId} {α : Type} {Q : KeyT P k α} {w : World} {b : Nat} {m : List (α × Value)} (h : MapIs Q w b m) : ∀ cs t f, w.heap[b]? ≠ some (.cells cs t f) := fun cs t f e => by
  obtain ⟨es, cl, h1⟩ := h.isMap
  rw [h1] at e; cases e
structure SwSay (W wr : World) (bc L r : Nat) (K : List KI) (t : Int) (X : Nat) (todo : List (ByteArray × Value)) (done Kd : List KI) : Prop where
  rg : RangeIs strQ wr bc r (K.map kp) todo
  mp : MapIs strQ wr L (Kd.map kp)
  nw : ∀ y ∈ Kd, NewK wr X y
  sub : ∀ x ∈ done, x ∈ K
  all : (done.map kp ++ todo).Perm (K.map kp)
  sw : (Kd.map (·.k)).Perm (sweepK (done.map (·.k)) t)
  bel : Below W.heap.size W wr
  lx : X ≤ wr.heap.size
  ne : L ≠ r
  nb : L ≠ bc
section
variable {W : World} {F : Nat → Prop} {g bc bp : Nat} {v : Value} {K : List KI} {P : List RI} {s : Shf}
theorem lsweeps_any (h : LAt W F g bc bp v K P s) (hs : ShOk s) (t : Int) :
    Calls Tryz.prog 43 #[.pointer (some ⟨g, 0, none⟩), .int .i64 t] W fun e w' => e = .returned (.int .i64 (sweepS s t).2) ∧ LRep w' (Gr F W w') g (sweepS s t).1 ∧ Far F W w' := by
  have s3 := h.cel.cell (i := 3) rfl
  have HH := Lib.hid (fun V (hb : Below W.heap.size W V) => h.below hb)
  have HF := Lib.hid h.fl
  have HMu := Lib.hid h.mu_lt
  have HS := Lib.hid hs
  have HNd := Lib.hid h.mc.nodup
  have HEk := Lib.hid h.ek
  have HKok := Lib.hid (show ∀ x ∈ K, ChOk x.k.l ∧ x.k.name.size ≤ maxLen from fun x hx => by
    have hm : x.k ∈ s.k := by rw [← h.ek]; exact List.mem_map_of_mem hx
    exact ⟨hs.kc _ hm, by have := (hs.kn _ hm).2; unfold maxLen; omega⟩)
  have HKv := Lib.hid h.kv
  have HPv := Lib.hid h.pv
  have HKl := Lib.hid (show K.length ≤ 1024 by rw [h.klen]; exact hs.kl)
  have HE := Lib.hid (show sweepS s t = if t < s.over then (s, 110) else (⟨sweepK s.k t, s.p, s.e, t⟩, 0) from rfl)
  have hbg := h.mc.lt
  have HBg := Lib.hid hbg
  clear hs
  by_cases ho : t < s.over
  · have E := Lib.hid (show sweepS s t = (s, 110) by rw [HE.out, if_pos ho])
    have HL := Lib.hid h
    clear h HE
    go_enter Tryz.func43, Tryz.ntmps43
    go_wp2_with fail
    go_ret
    refine ⟨(by rw [E.out]; first | done | rfl), ?_, Far.refl _ _⟩
    rw [E.out]
    exact ⟨_, _, _, _, _, HL.out.gr (Nat.le_refl _) HL.out⟩
  have E := Lib.hid (show sweepS s t = (⟨sweepK s.k t, s.p, s.e, t⟩, 0) by rw [HE.out, if_neg ho])
  have hb1 : Below W.heap.size W (W.alloc (.map #[] 0)) := (Below.refl _ W).alloc (Nat.le_refl _) _
  have hmade := mapIs_made strQ W
  have hs1 : (W.alloc (.map #[] 0)).heap.size = W.heap.size + 1 := by simp
  have HMade := Lib.hid (And.intro hmade (And.intro hb1 hs1))
  have s0 := (HH.out _ hb1).cel.cell (i := 0) rfl
  have hmc := (HH.out _ hb1).mc
  have hmm := @run_makeMap Tryz.prog
  clear HE h hmade
  go_enter Tryz.func43, Tryz.ntmps43
  go_wp2_with (at_range; refine wpList_range_is strQ rfl _ 85 92 rfl Tryz.underlying85 bc _ rfl hmc ?_; intro w0 hrg0 hb0 hs0)
  obtain ⟨hmade, _, _⟩ := HMade.out
  have hx2 : w0.heap.size = W.heap.size + 2 := by rw [hs0, hs1]
  have HSy0 : Hid (SwSay W w0 bc W.heap.size (W.alloc (.map #[] 0)).heap.size K t (W.heap.size + 2) (K.map kp) [] []) := Lib.hid ⟨hrg0, hmade.below hb0, fun y hy => (by cases hy), fun x hx => (by cases hx), by simp, by simp [sweepK], hb1.trans (hb0.mono hb1.size), by omega, by omega, by have := HBg.out; omega⟩
  rw [hs1] at HSy0
  clear hrg0 hb0 hs0 hmc s0 hmade hx2 HMade hb1 hs1 s3 hmm hbg
  go_loopw [20] (fun _ wr => ∃ todo done Kd, Hid (SwSay W wr bc W.heap.size (W.heap.size + 1) K t (W.heap.size + 2) todo done Kd)) (fun _ wr => wr.rangeLeft bc (W.heap.size + 1))
  case atStart => exact ⟨_, _, _, HSy0⟩
  case round =>
    obtain ⟨todo, done, Kd, hsy⟩ := hrel
    have hrg1 := hsy.out.rg
    clear HSy0
    go_wp2_with (at_next; refine wpList_next_k rfl _ rfl bc (W.heap.size + 1) K todo rfl hrg1 ?_ ?_)
    · intro h0
      subst h0
      have hB := hsy.out.bel
      have h' := HH.out _ hB
      have hgl : g < W.heap.size := HMu.out g (.inl rfl)
      have hbpl : bp < W.heap.size := HMu.out bp (.inr (.inr (.inl rfl)))
      have hdp : done.Perm K := done_perm HNd.out hsy.out.sub (by have := hsy.out.all; rwa [List.append_nil] at this)
      have hkp : (Kd.map (·.k)).Perm (sweepK s.k t) := by rw [← HEk.out]; exact hsy.out.sw.trans (sweepK_perm (hdp.map _) t)
      obtain ⟨K', hK1, hK2⟩ := perm_lift hkp
      have hmp : MapIs strQ wr W.heap.size (K'.map kp) := hsy.out.mp.perm (hK1.map kp).symm
      have hnw : ∀ y ∈ K', NewK wr (W.heap.size + 2) y := fun y hy => hsy.out.nw y (hK1.subset hy)
      have hsz9 : ((wr.setCell ⟨g, 0, none⟩ (.map (some W.heap.size))).setCell ⟨g, 3, none⟩ (.int .i64 t)).heap.size = wr.heap.size := by simp [World.setCell]
      have hk9 : ∀ k, k ≠ g → ((wr.setCell ⟨g, 0, none⟩ (.map (some W.heap.size))).setCell ⟨g, 3, none⟩ (.int .i64 t)).heap[k]? = wr.heap[k]? := fun k hk => by
        rw [Below.heap_setCell _ ⟨g, 3, none⟩ _ k hk, Below.heap_setCell _ ⟨g, 0, none⟩ _ k hk]
      have tn : ∀ k, Mu g W.heap.size bp v k → Mu g bc bp v k ∨ W.heap.size ≤ k := fun k hk => by
        rcases hk with h1 | h1 | h1 | h1
        · exact .inl (.inl h1)
        · exact .inr (by omega)
        · exact .inl (.inr (.inr (.inl h1)))
        · exact .inl (.inr (.inr (.inr h1)))
      have hL9 : LAt ((wr.setCell ⟨g, 0, none⟩ (.map (some W.heap.size))).setCell ⟨g, 3, none⟩ (.int .i64 t)) (Gr F W ((wr.setCell ⟨g, 0, none⟩ (.map (some W.heap.size))).setCell ⟨g, 3, none⟩ (.int .i64 t))) g W.heap.size bp v K' P ⟨sweepK s.k t, s.p, s.e, t⟩ := by
        refine ⟨(h'.cel.set (i := 0) (v := .map (some W.heap.size))).set (i := 3) (v := .int .i64 t), hmp.kept (hk9 _ (by omega)), h'.mp.kept (hk9 _ (h'.mp.ne h'.cel)), row_in h'.re (fun k hv => hk9 k (fun e => own_cel_ne h'.re h'.cel (by decide) (by rw [← e]; exact hv))), h'.en,
          fun y hy => (newK_val (hnw y hy) (fun k hk => by rcases tn k hk with h1 | h1
                                                           · have := HMu.out k h1; omega
                                                           · rcases hk with h2 | h2 | h2 | h2
                                                             · omega
                                                             · omega
                                                             · omega
                                                             · have := HMu.out k (.inr (.inr (.inr h2))); omega)).away ⟨by rw [hsz9]; exact Nat.le_refl _, fun k _ hn => hk9 k (fun e => hn (.inl e))⟩,
          fun x hx => (HPv.out x hx).both ⟨by rw [hsz9]; exact hB.size, fun k hlt hn => (hk9 k (fun e => hn (.inl e))).trans (hB.block k hlt)⟩ tn, hK2, h'.ep, by omega, fun k hk => ?_, fun y hy _ ad e => ?_, fun x hx => ⟨fun hp ad e => .inl ((h'.fp x hx).1 hp ad e), fun hp ad e => .inl ((h'.fp x hx).2 hp ad e)⟩, gr_lt HF.out (by rw [hsz9]; exact hB.size)⟩
        · rcases hk with h1 | h1 | h1 | h1
          · exact .inl (h'.fm k (.inl h1))
          · exact .inr ⟨by omega, by rw [hsz9, h1]; exact hsy.out.mp.lt⟩
          · exact .inl (h'.fm k (.inr (.inr (.inl h1))))
          · exact .inl (h'.fm k (.inr (.inr (.inr h1))))
        · obtain ⟨h1, h2⟩ := newK_in (hnw y hy) ad e
          exact .inr ⟨by omega, by rw [hsz9]; exact h2⟩
      have hA9 : Far F W ((wr.setCell ⟨g, 0, none⟩ (.map (some W.heap.size))).setCell ⟨g, 3, none⟩ (.int .i64 t)) := ⟨⟨by rw [hsz9]; exact hB.size, fun k hlt hn => (hk9 k (fun e => hn (by rw [e]; exact h'.fm g (.inl rfl)))).trans (hB.block k hlt)⟩, (st_below hB).trans ((st_set _ _ _).trans (st_set _ _ _))⟩
      have HL9 := Lib.hid hL9
      have HA9 := Lib.hid hA9
      have q0 := h'.cel.cell (i := 0) rfl
      have q3 := h'.cel.cell (i := 3) rfl
      have f0 := h'.cel.free (i := 0)
      have f3 := h'.cel.free (i := 3)
      clear hL9 hA9 tn hk9 hsz9 hnw hmp hK1 hK2 hkp hdp hbpl hgl h' hB hrg1 hsy
      go_wp2_with fail
      go_ret
      exact ⟨(by rw [E.out]; first | done | rfl), by rw [E.out]; exact ⟨_, _, _, _, _, HL9.out⟩, HA9.out⟩
    · intro X todo' w1 hX hp hrg2 hlt hgr hsz hen
      have hLr : W.heap.size ≠ W.heap.size + 1 := by omega
      have hLl := hsy.out.mp.lt
      have hb1 : Below W.heap.size W w1 := below_step hsy.out.bel (Nat.le_refl _) hgr (by omega)
      have hmp1 : MapIs strQ w1 W.heap.size (Kd.map kp) := hsy.out.mp.kept (hgr.block _ hLl (fun e => hLr (Option.some.inj e)))
      have hnw1 : ∀ y ∈ Kd, NewK w1 (W.heap.size + 2) y := fun y hy => own_keep (hsy.out.nw y hy) hsy.out.rg.iter (fun k hk hn => hgr.block k hk (fun e => hn (Option.some.inj e)))
      have hx1 : W.heap.size + 2 ≤ w1.heap.size := by rw [hsz]; exact hsy.out.lx
      obtain ⟨hok, hnm⟩ := HKok.out X hX
      have hkv := HKv.out X hX
      have hsp : sweepP X.k.l t = (sweepL X.k.l t, 0) := by unfold sweepP; rw [if_neg (by rw [okChk hok]; simp)]
      have hSw := lsweep_any X.A X.c X.k.l t w1 (hkv.row.vrs.below hb1) (ok32 hok) (okRng hok) hkv.nil hkv.le
      rw [hsp] at hSw
      have hnd := HNd.out
      have hall := (List.Perm.append_left (done.map kp) hp).symm.trans hsy.out.all
      have hnot : X.k.name ∉ done.map (fun x => x.k.name) := fun hc => by
        have h1 := (hall.map (·.1)).nodup_iff.2 hnd
        rw [List.map_append, List.map_map, List.nodup_append] at h1
        exact h1.2.2 _ hc _ (by rw [List.map_cons]; exact List.mem_cons_self ..) rfl
      have hkn : X.k.name ∉ (Kd.map kp).map (·.1) := fun hc => by
        obtain ⟨q, hq, e⟩ := List.mem_map.1 hc
        obtain ⟨y, hy, rfl⟩ := List.mem_map.1 hq
        have h1 : y.k ∈ sweepK (done.map (·.k)) t := hsy.out.sw.subset (List.mem_map_of_mem hy)
        obtain ⟨z, hz, hz2, _⟩ := mem_sweep h1
        obtain ⟨x, hx, rfl⟩ := List.mem_map.1 hz
        refine hnot (List.mem_map.2 ⟨x, hx, ?_⟩)
        rw [← e]
        show _ = y.k.name
        rw [hz2]
      have HAll : Hid (((done ++ [X]).map kp ++ todo').Perm (K.map kp)) := Lib.hid (by rw [List.map_append, List.append_assoc]; exact hall)
      have HSub : Hid (∀ x ∈ done ++ [X], x ∈ K) := Lib.hid (fun x hx => by
        rcases List.mem_append.1 hx with hx | hx
        · exact hsy.out.sub x hx
        · rw [List.mem_singleton.1 hx]; exact hX)
      have HSn := Lib.hid (show sweepK ((done ++ [X]).map (·.k)) t = sweepK (done.map (·.k)) t ++ (if (sweepL X.k.l t).isEmpty then [] else [⟨X.k.name, sweepL X.k.l t⟩]) by rw [List.map_append]; exact sweepK_snoc _ _ _)
      have HSwP := Lib.hid hsy.out.sw
      have HB1 := Lib.hid hb1
      have HMp := Lib.hid hmp1
      have HNw := Lib.hid hnw1
      have HRg := Lib.hid hrg2
      have HLt := Lib.hid hlt
      have HX1 := Lib.hid hx1
      have HKn := Lib.hid hkn
      have HNm := Lib.hid hnm
      have HKdl : Hid (Kd.length ≤ 1024) := Lib.hid (by
        have h1 := hsy.out.sw.length_eq
        rw [List.length_map] at h1
        rw [h1]
        refine Nat.le_trans (sweep_len _ _) ?_
        rw [List.length_map]
        have h2 := hsy.out.all.length_eq
        rw [List.length_append, List.length_map, List.length_map] at h2
        have := HKl.out
        omega)
      generalize sweepL X.k.l t = R at hSw HSn
      obtain ⟨⟨nm, l⟩, A, c⟩ := X
      simp only at hen hSw HSn HKn HNm HAll HSub
      have HSw : Hid (Calls Tryz.prog 97 #[.slice A l.length c, .int .i64 t] w1 fun e' w' => ∃ u : Value, e' = .returned (.tuple #[u, .int .i64 0]) ∧ w'.ownsRow w1.heap.size 77 3 u R.length (vrV R) ∧ Below w1.heap.size w1 w') := Lib.hid hSw
      clear hLr hLl hb1 hmp1 hnw1 hx1 hok hkv hsp hSw hnd hall hnot hkn hX hp hrg2 hlt hgr hsz hnm hsy hrg1
      go_wp2_with fail
      refine HSw.out.mono ?_
      rintro e2 w2 ⟨u, rfl, ho, hb⟩
      obtain ⟨A2, c2, rfl, _⟩ := own_rowF (F := fun _ => False) ho (vrV_len R) (fun _ hf => hf.elim)
      have HNu : Hid (NewK w2 (W.heap.size + 2) ⟨⟨nm, R⟩, A2, c2⟩) := Lib.hid (own_base ho HX1.out)
      have HB2 := Lib.hid (HB1.out.trans (hb.mono HB1.out.size))
      have HMp2 := Lib.hid (HMp.out.below hb)
      have HNw2 := Lib.hid (show ∀ y ∈ Kd, NewK w2 (W.heap.size + 2) y from fun y hy => st_keep (HNw.out y hy) hb)
      have HRg2 := Lib.hid (HRg.out.below hb)
      have HLt2 : Hid (w2.rangeLeft bc (W.heap.size + 1) < wr.rangeLeft bc (W.heap.size + 1)) := Lib.hid (by rw [rangeLeft_kept (hb.block bc HRg.out.map.lt) (hb.block _ HRg.out.lt)]; exact HLt.out)
      have HX2 := Lib.hid (Nat.le_trans HX1.out hb.size)
      clear ho hb HSw HB1 HMp HNw HRg HLt HX1
      by_cases hR : R.length = 0
      · obtain rfl : R = [] := List.eq_nil_of_length_eq_zero hR
        have HFin : Hid (SwSay W w2 bc W.heap.size (W.heap.size + 1) K t (W.heap.size + 2) todo' (done ++ [⟨⟨nm, l⟩, A, c⟩]) Kd) := Lib.hid ⟨HRg2.out, HMp2.out, HNw2.out, HSub.out, HAll.out, by rw [HSn.out]; simpa using HSwP.out, HB2.out, HX2.out, by omega, by have := HBg.out; omega⟩
        clear hR HNu HSn
        go_wp2_with fail
        go_roundw
        case rel => exact ⟨_, _, _, HFin⟩
        case measure => exact HLt2.out
      · have pR : (0 : Int) < (R.length : Int) := by omega
        have hRe : R.isEmpty = false := by cases R with | nil => simp at hR | cons _ _ => rfl
        have HSn2 := Lib.hid (show (((⟨⟨nm, R⟩, A2, c2⟩ : KI) :: Kd).map (fun x : KI => x.k)).Perm (sweepK ((done ++ [(⟨⟨nm, l⟩, A, c⟩ : KI)]).map (fun x : KI => x.k)) t) by
          rw [HSn.out, hRe, if_neg (by simp), List.map_cons]
          exact (HSwP.out.cons _).trans (List.perm_append_comm (l₁ := [(⟨nm, R⟩ : Kc)])))
        clear hR hRe HSn
        go_wp2_with (at_mapUpdate; refine wpList_update_is strQ rfl _ _ _ 85 92 rfl Tryz.underlying85 W.heap.size (Kd.map kp) rfl HMp2.out ?c1 nm (strQ_ok HNm.out) (.slice A2 R.length c2) rfl rfl ?_)
        case c1 => rw [List.length_map]; have := HKdl.out; unfold maxLen; omega
        intro w3 hm ht
        rw [outM_none HKn.out] at hm
        have hk : ∀ k, k ≠ W.heap.size → w3.heap[k]? = w2.heap[k]? := fun k hk => turned_other ht hk
        have hs3 := turned_size ht
        have HFin : Hid (SwSay W w3 bc W.heap.size (W.heap.size + 1) K t (W.heap.size + 2) todo' (done ++ [⟨⟨nm, l⟩, A, c⟩]) (⟨⟨nm, R⟩, A2, c2⟩ :: Kd)) := Lib.hid (by
          refine ⟨HRg2.out.kept (hk bc (by have := HBg.out; omega)) (hk _ (by omega)), hm, fun y hy => ?_, HSub.out, HAll.out, HSn2.out, ?_, by rw [hs3]; exact HX2.out, by omega, by have := HBg.out; omega⟩
          · rcases List.mem_cons.1 hy with rfl | hy
            · exact own_keep HNu.out HMp2.out.nocells (fun k _ hn => hk k hn)
            · exact own_keep (HNw2.out y hy) HMp2.out.nocells (fun k _ hn => hk k hn)
          · have hg3 := ht.grown
            exact HB2.out.trans ⟨hg3.os, hg3.tape, hg3.output, by rw [hs3]; exact Nat.le_refl _, fun k hlt => hk k (by omega)⟩)
        have HLt3 : Hid (w3.rangeLeft bc (W.heap.size + 1) < wr.rangeLeft bc (W.heap.size + 1)) := Lib.hid (by rw [rangeLeft_kept (hk bc (by have := HBg.out; omega)) (hk _ (by omega))]; exact HLt2.out)
        clear hm ht hk hs3
        go_wp2_with fail
        go_roundw
        case rel => exact ⟨_, _, _, HFin⟩
        case measure => exact HLt3.out
end
theorem may_one {r:Rec} (h:RecOk r) (hk:r.kind = 3):MayW r.ts [⟨r.key,r.text,r.dead⟩] ∧ vrOk ⟨r.ts,r.text,r.dead⟩:=by
 obtain ⟨_,_,_,h1,h2,h3,h4⟩:=(kind_3 hk).1 h.2
 have h5:=h.1.2.1
 unfold stampOk at h5
 have h6:¬ (r.dead = true ∧ r.text ≠ ⟨#[]⟩):=fun hc=>by
  rcases h4 with h4 | h4
  ·rw [h4] at hc;cases hc.1
  ·exact hc.2 h4
 exact ⟨⟨by omega,fun x hx=>by rw [List.mem_singleton.1 hx];exact ⟨h2,h3,h6⟩,List.pairwise_singleton ..⟩,by show 1 ≤ r.ts;omega,by show r.ts ≤ _;omega,h3,h6⟩
theorem one_wr (W:World) (k t:ByteArray) (d:Bool):WrsAt (W.alloc (.cells #[.string k,.string t,.bool d] 45)) (some ⟨W.heap.size,0,none⟩) [⟨k,t,d⟩]:=fun _=>by
 refine ⟨_,rfl,by simp,fun i hi=>?_⟩
 obtain rfl:i = 0:=by simp at hi;omega
 have hc:Cel (W.alloc (.cells #[.string k,.string t,.bool d] 45)) W.heap.size 45 [.string k,.string t,.bool d]:=(blk1 W _).2
 exact ⟨hc.cell (i:=0) rfl,hc.cell (i:=1) rfl,hc.cell (i:=2) rfl⟩
theorem LRep.more {W:World} {F F':Nat → Prop} {g:Nat} {s:Shf} (h:LRep W F g s) (hF:∀ k,F k → F' k) (hl:∀ k,F' k → k < W.heap.size):LRep W F' g s:=by
 obtain ⟨bc,bp,v,K,P,h⟩:=h
 exact ⟨bc,bp,v,K,P,h.more hF hl⟩
theorem gr_later {W V w':World} {F:Nat → Prop} (h:W.heap.size ≤ V.heap.size):∀ k,Gr F V w' k → Gr F W w' k:=fun _ hk=>hk.elim .inl (fun h2=>.inr ⟨Nat.le_trans h h2.1,h2.2⟩)
section
variable {W:World} {F:Nat → Prop} {g bc bp:Nat} {v:Value} {K:List KI} {P:List RI} {s:Shf}
theorem lapply_any (h:LAt W F g bc bp v K P s) (hs:ShOk s) (x:RI) (hv:RecVal W x.A x.B x.c x.d x.l) :
  Calls Tryz.prog 11 #[.pointer (some ⟨g,0,none⟩),.agg (rcs x).toArray] W fun e w'=>e = .returned (.int .i64 (applyP s x.l).2) ∧ LRep w' (Gr F W w') g (applyP s x.l).1 ∧ Far F W w':=by
 have HF:=Lib.hid h.fl
 have HLat:=Lib.hid (show ∀ V w' s',Below W.heap.size W V → LRep w' (Gr F V w') g s' → Far F V w' → LRep w' (Gr F W w') g s' ∧ Far F W w' from fun V w' s' hb hl ha=>by
  have haw:=(Far.of (F:=F) hb).trans ha
  exact ⟨hl.more (gr_later hb.size) (gr_lt h.fl haw.size),haw⟩)
 have HCk:=Lib.hid (fun V (hb:Below W.heap.size W V)=>lcheckAll x.A x.B x.c x.d x.l V (hv.below hb))
 have HPr:=Lib.hid (fun V (hb:Below W.heap.size W V) (hr:RecOk x.l) (hk:x.l.kind = 1)=>lprepare_any (h.below hb) hs x (hv.below hb) hr hk)
 have HDo:=Lib.hid (fun V (hb:Below W.heap.size W V) (hr:RecOk x.l) (hk:x.l.kind = 2)=>lend_any (h.below hb) hs x.l.txn x.l.ts (by
  have h1:=((kind_2 hk).1 hr.2).2
  rcases hr.1.1 with h2 | h2
  ·exact absurd h2 h1
  ·exact h2) hr.1.2.1)
 have HWr:=Lib.hid (fun V (hb:Below W.heap.size W V) (hr:RecOk x.l) (hk:x.l.kind = 3)=>lwrite_any (h.below (hb.trans (((Below.refl _ V).alloc (Nat.le_refl _) (.cells #[.string x.l.key,.string x.l.text,.bool x.l.dead] 45)).mono hb.size))) hs (may_one hr hk).1 (some ⟨V.heap.size,0,none⟩) 1 (one_wr V x.l.key x.l.text x.l.dead) (fun _ ad e hm=>by
  obtain rfl:=Option.some.inj e
  have h1:V.heap.size < W.heap.size:=h.mu_lt _ hm
  have:=hb.size
  omega) (by simp))
 have HSw:=Lib.hid (fun V (hb:Below W.heap.size W V)=>lsweeps_any (h.below hb) hs x.l.ts)
 have HOld:=Lib.hid (show ∀ V,Below W.heap.size W V → ∀ e,applyP s x.l = (s,e) → LRep V (Gr F W V) g (applyP s x.l).1 ∧ Far F W V from fun V hb e he=>by
  rw [he]
  exact ⟨⟨bc,bp,v,K,P,h.gr hb.size (h.below hb)⟩,Far.of hb⟩)
 have H0:=Lib.hid (fun (hr:¬ RecOk x.l)=>show applyP s x.l = (s,80) by unfold applyP;rw [if_pos hr])
 have H1:=Lib.hid (fun (hr:RecOk x.l) (hk:x.l.kind = 1)=>show applyP s x.l = prepareP s x.l by unfold applyP;rw [if_neg (by simpa using hr),if_pos hk])
 have H2:=Lib.hid (fun (hr:RecOk x.l) (hk:x.l.kind = 2)=>show applyP s x.l = doP s x.l.txn x.l.ts by unfold applyP;rw [if_neg (by simpa using hr),if_neg (by omega),if_pos hk])
 have H3:=Lib.hid (fun (hr:RecOk x.l) (hk:x.l.kind = 3)=>show applyP s x.l = writeP s x.l.ts [⟨x.l.key,x.l.text,x.l.dead⟩] by rw [← ver_write hs (v:=⟨x.l.ts,x.l.text,x.l.dead⟩) (may_one hr hk).2];unfold applyP;rw [if_neg (by simpa using hr),if_neg (by omega),if_neg (by omega),if_pos hk])
 have H4:=Lib.hid (fun (hr:RecOk x.l) (hk:x.l.kind = 4)=>show applyP s x.l = sweepS s x.l.ts by unfold applyP;rw [if_neg (by simpa using hr),if_neg (by omega),if_neg (by omega),if_neg (by omega),if_pos hk])
 have H5:=Lib.hid (fun (hr:RecOk x.l) (h1:x.l.kind ≠ 1) (h2:x.l.kind ≠ 2) (h3:x.l.kind ≠ 3) (h4:x.l.kind ≠ 4)=>show applyP s x.l = (s,80) by unfold applyP;rw [if_neg (by simpa using hr),if_neg h1,if_neg h2,if_neg h3,if_neg h4])
 obtain ⟨r,A1,B1,c1,d1⟩:=x
 try simp only at HOld
 try simp only at H0
 try simp only at H1
 try simp only at H2
 try simp only at H3
 try simp only at H4
 try simp only at H5
 try simp only at HDo
 try simp only at HSw
 try simp only at HWr
 have HPr2:Hid (∀ V,Below W.heap.size W V → RecOk r → r.kind = 1 → Calls Tryz.prog 40 #[.pointer (some ⟨g,0,none⟩),.agg #[.int .i64 r.kind,.int .i64 r.txn,.int .i64 r.ts,.int .i64 r.coord,.string r.key,.string r.text,.bool r.dead,.slice A1 r.keys.length c1,.slice B1 r.ws.length d1]] V fun e w'=>e = .returned (.int .i64 (prepareP s r).2) ∧ LRep w' (Gr F V w') g (prepareP s r).1 ∧ Far F V w'):=HPr
 have HCk2:Hid (∀ V,Below W.heap.size W V → Calls Tryz.prog 39 #[.agg #[.int .i64 r.kind,.int .i64 r.txn,.int .i64 r.ts,.int .i64 r.coord,.string r.key,.string r.text,.bool r.dead,.slice A1 r.keys.length c1,.slice B1 r.ws.length d1]] V fun e w'=>e = .returned (.int .i64 (ckN r:Int)) ∧ Below V.heap.size V w'):=HCk
 have hc1:Cel (W.alloc (.cells (c9 r (.slice A1 r.keys.length c1) (.slice B1 r.ws.length d1)).toArray 37)) W.heap.size 37 (c9 r (.slice A1 r.keys.length c1) (.slice B1 r.ws.length d1)):=(blk1 W _).2
 have hb1:Below W.heap.size W (W.alloc (.cells (c9 r (.slice A1 r.keys.length c1) (.slice B1 r.ws.length d1)).toArray 37)):=(Below.refl _ W).alloc (Nat.le_refl _) _
 clear h hs hv HPr HCk
 show Calls _ _ #[_,.agg #[.int .i64 r.kind,.int .i64 r.txn,.int .i64 r.ts,.int .i64 r.coord,.string r.key,.string r.text,.bool r.dead,.slice A1 r.keys.length c1,.slice B1 r.ws.length d1]] _ _
 go_enter Tryz.func11,Tryz.ntmps11
 go_upto_region 1 with fail
 generalize W.alloc (.cells #[.int .i64 r.kind,.int .i64 r.txn,.int .i64 r.ts,.int .i64 r.coord,.string r.key,.string r.text,.bool r.dead,.slice A1 r.keys.length c1,.slice B1 r.ws.length d1] 37) = W1 at hc1 hb1 ⊢
 have HC1:=Lib.hid hc1
 have HB1:=Lib.hid hb1
 have q0:=hc1.cell (i:=0) rfl
 have q1:=hc1.cell (i:=1) rfl
 have q2:=hc1.cell (i:=2) rfl
 have q3:=hc1.cell (i:=3) rfl
 have q4:=hc1.cell (i:=4) rfl
 have q5:=hc1.cell (i:=5) rfl
 have q6:=hc1.cell (i:=6) rfl
 have q7:=hc1.cell (i:=7) rfl
 have q8:=hc1.cell (i:=8) rfl
 clear hc1 hb1
 go_wp2_with fail
 refine (HCk2.out _ HB1.out).mono ?_
 rintro e1 w1 ⟨rfl,hb⟩
 have HB2:=Lib.hid (HB1.out.trans (hb.mono HB1.out.size))
 have hc2:=HC1.out.below hb
 clear q0 q1 q2 q3 q4 q5 q6 q7 q8 hb HC1 HCk2 HB1
 by_cases hok:RecOk r
 case neg =>
  have E:=Lib.hid (H0.out hok)
  rw [ckN_not hok]
  clear hc2 hok
  go_wp2_with fail
  go_ret
  exact ⟨(by rw [E.out];first | done | rfl),HOld.out _ HB2.out _ E.out⟩
 rw [ckN_of hok]
 have q0:=hc2.cell (i:=0) rfl
 have q1:=hc2.cell (i:=1) rfl
 have q2:=hc2.cell (i:=2) rfl
 have q3:=hc2.cell (i:=3) rfl
 have q4:=hc2.cell (i:=4) rfl
 have q5:=hc2.cell (i:=5) rfl
 have q6:=hc2.cell (i:=6) rfl
 have q7:=hc2.cell (i:=7) rfl
 have q8:=hc2.cell (i:=8) rfl
 have HC2:=Lib.hid hc2
 clear hc2
 have HOk:=Lib.hid hok
 by_cases k1:r.kind = 1
 ·have E:=Lib.hid (H1.out hok k1)
  have HR:=Lib.hid (HPr2.out _ HB2.out hok k1)
  rw [k1] at HR
  clear H0 H1 H2 H3 H4 H5 hok HOld HPr2 HDo HWr HSw
  go_wp2_with fail
  refine HR.out.mono ?_
  rintro e2 w2 ⟨rfl,hl,ha⟩
  have HR2:=Lib.hid (HLat.out _ _ _ HB2.out hl ha)
  clear hl ha HR
  go_wp2_with fail
  go_ret
  exact ⟨(by rw [E.out];first | done | rfl),by rw [E.out];exact HR2.out.1,HR2.out.2⟩
 by_cases k2:r.kind = 2
 ·have E:=Lib.hid (H2.out hok k2)
  have HR:=Lib.hid (HDo.out _ HB2.out hok k2)
  clear H0 H1 H2 H3 H4 H5 hok HOld HPr2 HDo HWr HSw
  go_wp2_with fail
  refine HR.out.mono ?_
  rintro e2 w2 ⟨rfl,hl,ha⟩
  have HR2:=Lib.hid (HLat.out _ _ _ HB2.out hl ha)
  clear hl ha HR
  go_wp2_with fail
  go_ret
  exact ⟨(by rw [E.out];first | done | rfl),by rw [E.out];exact HR2.out.1,HR2.out.2⟩
 by_cases k3:r.kind = 3
 ·have E:=Lib.hid (H3.out hok k3)
  have HR:=Lib.hid (HWr.out _ HB2.out hok k3)
  have HB3:=Lib.hid (HB2.out.trans (((Below.refl _ w1).alloc (Nat.le_refl _) (.cells #[.string r.key,.string r.text,.bool r.dead] 45)).mono HB2.out.size))
  simp only [List.length_cons,List.length_nil,Nat.zero_add] at HR
  clear H0 H1 H2 H3 H4 H5 hok HOld HPr2 HDo HWr HSw
  go_wp2_with fail
  refine HR.out.mono ?_
  rintro e2 w2 ⟨rfl,⟨K',hl⟩,ha⟩
  have HR2:=Lib.hid (HLat.out _ _ _ HB3.out ⟨_,_,_,_,_,hl⟩ ha)
  clear hl ha HR
  go_wp2_with fail
  go_ret
  exact ⟨(by rw [E.out];first | done | rfl),by rw [E.out];exact HR2.out.1,HR2.out.2⟩
 by_cases k4:r.kind = 4
 ·have E:=Lib.hid (H4.out hok k4)
  have HR:=Lib.hid (HSw.out _ HB2.out)
  clear H0 H1 H2 H3 H4 H5 hok HOld HPr2 HDo HWr HSw
  go_wp2_with fail
  refine HR.out.mono ?_
  rintro e2 w2 ⟨rfl,hl,ha⟩
  have HR2:=Lib.hid (HLat.out _ _ _ HB2.out hl ha)
  clear hl ha HR
  go_wp2_with fail
  go_ret
  exact ⟨(by rw [E.out];first | done | rfl),by rw [E.out];exact HR2.out.1,HR2.out.2⟩
 have E:=Lib.hid (H5.out hok k1 k2 k3 k4)
 clear H0 H1 H2 H3 H4 H5 hok HPr2 HDo HWr HSw
 go_wp2_with fail
 go_ret
 exact ⟨(by rw [E.out];first | done | rfl),HOld.out _ HB2.out _ E.out⟩
end
theorem lnew_any (W:World):Calls Tryz.prog 7 #[] W fun e w'=>∃ g F,e = .returned (.pointer (some ⟨g,0,none⟩)) ∧ LRep w' F g empty ∧ (∀ k,F k → W.heap.size ≤ k) ∧ Below W.heap.size W w':=by
 have hmm:=@run_makeMap Tryz.prog
 go_enter Tryz.func7,Tryz.ntmps7
 go_wp2_with fail
 go_ret
 have n1:(W.alloc (.map #[] 0)).heap.size = W.heap.size + 1:=Array.size_push ..
 have n2:((W.alloc (.map #[] 0)).alloc (.map #[] 0)).heap.size = W.heap.size + 1 + 1:=by exact (Array.size_push ..).trans (by rw [n1])
 have b1:Below W.heap.size W (W.alloc (.map #[] 0)):=(Below.refl _ W).alloc (Nat.le_refl _) _
 have b2:=(Below.refl _ (W.alloc (.map #[] 0))).alloc (Nat.le_refl _) (.map #[] 0)
 have b3:=(Below.refl _ ((W.alloc (.map #[] 0)).alloc (.map #[] 0))).alloc (Nat.le_refl _) (.cells #[.map (some W.heap.size),.map (some (W.heap.size + 1)),.slice none 0 0,.int .i64 0] 89)
 have m1:=mapIs_made strQ W
 have m2:=mapIs_made intQ (W.alloc (.map #[] 0))
 have c1:=(blk1 ((W.alloc (.map #[] 0)).alloc (.map #[] 0)) (.cells #[.map (some W.heap.size),.map (some (W.heap.size + 1)),.slice none 0 0,.int .i64 0] 89)).2
 rw [n1] at m2 b2
 rw [n2] at c1 b3
 refine ⟨_,Mu (W.heap.size + 1 + 1) W.heap.size (W.heap.size + 1) (.slice none 0 0),rfl,⟨_,_,_,[],[],c1,?_,?_,⟨rfl,.inl ?_⟩,fun _=>rfl,by simp,by simp,rfl,rfl,by omega,fun _ h=>h,by simp,by simp,?_⟩,?_,?_⟩
 ·exact (m1.kept (b2.block _ (by omega))).kept (b3.block _ (by omega))
 ·exact m2.kept (b3.block _ (by omega))
 ·exact ⟨rfl,rfl⟩
 ·rintro k (h | h | h | h)
  ·have n3:(((W.alloc (.map #[] 0)).alloc (.map #[] 0)).alloc (.cells #[.map (some W.heap.size),.map (some (W.heap.size + 1)),.slice none 0 0,.int .i64 0] 89)).heap.size = W.heap.size + 1 + 1 + 1:=(Array.size_push ..).trans (by rw [n2])
   omega
  ·have n3:(((W.alloc (.map #[] 0)).alloc (.map #[] 0)).alloc (.cells #[.map (some W.heap.size),.map (some (W.heap.size + 1)),.slice none 0 0,.int .i64 0] 89)).heap.size = W.heap.size + 1 + 1 + 1:=(Array.size_push ..).trans (by rw [n2])
   omega
  ·have n3:(((W.alloc (.map #[] 0)).alloc (.map #[] 0)).alloc (.cells #[.map (some W.heap.size),.map (some (W.heap.size + 1)),.slice none 0 0,.int .i64 0] 89)).heap.size = W.heap.size + 1 + 1 + 1:=(Array.size_push ..).trans (by rw [n2])
   omega
  ·cases h
 ·rintro k (h | h | h | h)
  ·omega
  ·omega
  ·omega
  ·cases h
 ·exact b1.trans ((b2.mono (by omega)).trans (b3.mono (by omega)))
end Sh
end Go.Proofs.YtbkanoblcojdfaaGreat
