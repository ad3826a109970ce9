/- Parts of the proof, joined: ShSortS, ShL21, ShL22; their conditions stand with each. -/
import Derived.Shelf.SlIter.Nil
import Derived.Shelf.SortM.Plain
import Derived.Shelf.SortM.SortNone
import Derived.Test.YtbkanoblcojdfaaGreatM2
import Derived.Test.YtbkanoblcojdfaaGreatM20
import Derived.Test.YtbkanoblcojdfaaGreatM26

namespace Go.Proofs.YtbkanoblcojdfaaGreat
namespace Sh
open Go.RowKit Go.Maps Go.Sort Go.Shelf Bk
def keysS_ren : Go.Shelf.Ren := ⟨fun | 7 => 110 | 10 => 169 | n => n, fun | 23 => 85 | 26 => 9 | 3 => 92 | 28 => 173 | 0 => 0 | 27 => 172 | 33 => 163 | 4 => 4 | n => n, fun | n => n⟩
theorem keysS : Go.Proofs.SlLaysZ.n7 Tryz.prog keysS_ren := {
  mixed := by kernel_rfl
  f7 := ⟨Tryz.f110.name, by decide, Tryz.func110.trans (congrArg some (by kernel_rfl))⟩
  f10 := ⟨Tryz.f169.name, by decide, Tryz.func169.trans (congrArg some (by kernel_rfl))⟩
  t0 := Tryz.underlying0
  a0 := Tryz.isAgg0
  z0 := Tryz.sizeOf0
  v0 := Tryz.zeroValue0
  t4 := Tryz.underlying4
  a4 := Tryz.isAgg4
  z4 := Tryz.sizeOf4
  v4 := Tryz.zeroValue4
  t23 := Tryz.underlying85
  a23 := Tryz.isAgg85
  z23 := Tryz.sizeOf85
  v23 := Tryz.zeroValue85
  t26 := Tryz.underlying9
  a26 := Tryz.isAgg9
  z26 := Tryz.sizeOf9
  v26 := Tryz.zeroValue9
  t27 := Tryz.underlying172
  a27 := Tryz.isAgg172
  z27 := Tryz.sizeOf172
  v27 := Tryz.zeroValue172
  t28 := Tryz.underlying173
  a28 := Tryz.isAgg173
  z28 := Tryz.sizeOf173
  v28 := Tryz.zeroValue173
  t33 := Tryz.underlying163
  a33 := Tryz.isAgg163
  z33 := Tryz.sizeOf163
  v33 := Tryz.zeroValue163
}
def sortedS_ren : Go.Shelf.Ren := ⟨fun | 6 => 109 | 8 => 167 | 9 => 168 | 11 => 232 | 13 => 206 | 12 => 233 | 23 => 280 | 24 => 281 | 14 => 296 | 15 => 297 | 16 => 298 | 17 => 299 | 18 => 300 | 19 => 301 | 20 => 235 | 21 => 302 | 22 => 303 | 25 => 337 | 26 => 322 | 27 => 323 | 28 => 338 | 29 => 339 | 30 => 305 | 31 => 352 | n => n, fun | 26 => 9 | 28 => 173 | 24 => 23 | 0 => 0 | 3 => 3 | 37 => 261 | 48 => 326 | 50 => 315 | 4 => 4 | 40 => 320 | 39 => 319 | 45 => 164 | 5 => 5 | 9 => 9 | 51 => 353 | 55 => 357 | 57 => 375 | 58 => 90 | 33 => 163 | n => n, fun | n => n⟩
theorem sortedS : Go.Proofs.SlLaysZ.n6 Tryz.prog sortedS_ren := {
  mixed := by kernel_rfl
  f6 := ⟨Tryz.f109.name, by decide, Tryz.func109.trans (congrArg some (by kernel_rfl))⟩
  f8 := ⟨Tryz.f167.name, by decide, Tryz.func167.trans (congrArg some (by kernel_rfl))⟩
  f11 := ⟨Tryz.f232.name, by decide, Tryz.func232.trans (congrArg some (by kernel_rfl))⟩
  t0 := Tryz.underlying0
  a0 := Tryz.isAgg0
  z0 := Tryz.sizeOf0
  v0 := Tryz.zeroValue0
  t24 := Tryz.underlying23
  a24 := Tryz.isAgg23
  z24 := Tryz.sizeOf23
  v24 := Tryz.zeroValue23
  t26 := Tryz.underlying9
  a26 := Tryz.isAgg9
  z26 := Tryz.sizeOf9
  v26 := Tryz.zeroValue9
  t28 := Tryz.underlying173
  a28 := Tryz.isAgg173
  z28 := Tryz.sizeOf173
  v28 := Tryz.zeroValue173
  i26 := by kernel_rfl
}
def sortS_ren : Go.Shelf.Ren := ⟨fun | 6 => 168 | 8 => 206 | 9 => 233 | 19 => 280 | 20 => 281 | 21 => 296 | 22 => 297 | 23 => 298 | 24 => 299 | 25 => 300 | 26 => 301 | 27 => 235 | 28 => 302 | 29 => 303 | 36 => 337 | 31 => 322 | 32 => 323 | 37 => 338 | 38 => 339 | 39 => 305 | 41 => 352 | n => n, fun | 27 => 23 | 29 => 9 | 3 => 3 | 32 => 261 | 26 => 23 | 0 => 0 | 44 => 326 | 46 => 315 | 4 => 4 | 36 => 320 | 35 => 319 | 41 => 164 | 5 => 5 | 9 => 9 | 53 => 353 | 57 => 357 | 63 => 375 | 64 => 90 | n => n, fun | n => n⟩
theorem sortS : Go.Proofs.SlLaysM.n6 Tryz.prog sortS_ren := {
  mixed := by kernel_rfl
  f6 := ⟨Tryz.f168.name, by decide, Tryz.func168.trans (congrArg some (by kernel_rfl))⟩
  f9 := ⟨Tryz.f233.name, by decide, Tryz.func233.trans (congrArg some (by kernel_rfl))⟩
  f8 := Tryz.func206.trans (congrArg some (by kernel_rfl))
  f21 := ⟨Tryz.f296.name, by decide, Tryz.func296.trans (congrArg some (by kernel_rfl))⟩
  f22 := ⟨Tryz.f297.name, by decide, Tryz.func297.trans (congrArg some (by kernel_rfl))⟩
  f23 := ⟨Tryz.f298.name, by decide, Tryz.func298.trans (congrArg some (by kernel_rfl))⟩
  f24 := ⟨Tryz.f299.name, by decide, Tryz.func299.trans (congrArg some (by kernel_rfl))⟩
  f25 := ⟨Tryz.f300.name, by decide, Tryz.func300.trans (congrArg some (by kernel_rfl))⟩
  f26 := ⟨Tryz.f301.name, by decide, Tryz.func301.trans (congrArg some (by kernel_rfl))⟩
  f27 := ⟨Tryz.f235.name, by decide, Tryz.func235.trans (congrArg some (by kernel_rfl))⟩
  f28 := ⟨Tryz.f302.name, by decide, Tryz.func302.trans (congrArg some (by kernel_rfl))⟩
  f29 := ⟨Tryz.f303.name, by decide, Tryz.func303.trans (congrArg some (by kernel_rfl))⟩
  f19 := Tryz.func280.trans (congrArg some (by kernel_rfl))
  f20 := Tryz.func281.trans (congrArg some (by kernel_rfl))
  f36 := ⟨Tryz.f337.name, by decide, Tryz.func337.trans (congrArg some (by kernel_rfl))⟩
  f31 := Tryz.func322.trans (congrArg some (by kernel_rfl))
  f32 := Tryz.func323.trans (congrArg some (by kernel_rfl))
  f37 := ⟨Tryz.f338.name, by decide, Tryz.func338.trans (congrArg some (by kernel_rfl))⟩
  f38 := ⟨Tryz.f339.name, by decide, Tryz.func339.trans (congrArg some (by kernel_rfl))⟩
  f39 := ⟨Tryz.f305.name, by decide, Tryz.func305.trans (congrArg some (by kernel_rfl))⟩
  f41 := ⟨Tryz.f352.name, by decide, Tryz.func352.trans (congrArg some (by kernel_rfl))⟩
  t0 := Tryz.underlying0
  a0 := Tryz.isAgg0
  z0 := Tryz.sizeOf0
  v0 := Tryz.zeroValue0
  t3 := Tryz.underlying3
  a3 := Tryz.isAgg3
  z3 := Tryz.sizeOf3
  v3 := Tryz.zeroValue3
  t4 := Tryz.underlying4
  a4 := Tryz.isAgg4
  z4 := Tryz.sizeOf4
  v4 := Tryz.zeroValue4
  t5 := Tryz.underlying5
  a5 := Tryz.isAgg5
  z5 := Tryz.sizeOf5
  v5 := Tryz.zeroValue5
  t9 := Tryz.underlying9
  a9 := Tryz.isAgg9
  z9 := Tryz.sizeOf9
  v9 := Tryz.zeroValue9
  t26 := Tryz.underlying23
  a26 := Tryz.isAgg23
  z26 := Tryz.sizeOf23
  v26 := Tryz.zeroValue23
  t27 := Tryz.underlying23
  a27 := Tryz.isAgg23
  z27 := Tryz.sizeOf23
  v27 := Tryz.zeroValue23
  t29 := Tryz.underlying9
  a29 := Tryz.isAgg9
  z29 := Tryz.sizeOf9
  v29 := Tryz.zeroValue9
  t32 := Tryz.underlying261
  a32 := Tryz.isAgg261
  z32 := Tryz.sizeOf261
  v32 := Tryz.zeroValue261
  t35 := Tryz.underlying319
  a35 := Tryz.isAgg319
  z35 := Tryz.sizeOf319
  v35 := Tryz.zeroValue319
  t36 := Tryz.underlying320
  a36 := Tryz.isAgg320
  z36 := Tryz.sizeOf320
  v36 := Tryz.zeroValue320
  t41 := Tryz.underlying164
  a41 := Tryz.isAgg164
  z41 := Tryz.sizeOf164
  v41 := Tryz.zeroValue164
  t44 := Tryz.underlying326
  a44 := Tryz.isAgg326
  z44 := Tryz.sizeOf326
  v44 := Tryz.zeroValue326
  t46 := Tryz.underlying315
  a46 := Tryz.isAgg315
  z46 := Tryz.sizeOf315
  v46 := Tryz.zeroValue315
  t53 := Tryz.underlying353
  a53 := Tryz.isAgg353
  z53 := Tryz.sizeOf353
  v53 := Tryz.zeroValue353
  t57 := Tryz.underlying357
  a57 := Tryz.isAgg357
  z57 := Tryz.sizeOf357
  v57 := Tryz.zeroValue357
  t63 := Tryz.underlying375
  a63 := Tryz.isAgg375
  z63 := Tryz.sizeOf375
  v63 := Tryz.zeroValue375
  t64 := Tryz.underlying90
  a64 := Tryz.isAgg90
  z64 := Tryz.sizeOf90
  v64 := Tryz.zeroValue90
}
theorem sortsS (m : Nat) : AnyZ.SortsIn Tryz.prog sortedS_ren Fence.wide m :=
  ⟨fun blk off cap ss W hH hblk hsz => callsIn_wide.2 (AnyM.slices_Sort_string sortS blk off cap ss W hH hblk hsz),
   fun p cap W => callsIn_wide.2 (AnyM.slices_Sort_string_none sortS p cap W)⟩
theorem skeys_call (mb : Option Nat) (W : World) : Calls Tryz.prog 110 #[.map mb] W fun e w' =>
    e = .returned (.func (.func 169) #[] #[.pointer (some ⟨W.heap.size, 0, none⟩)]) ∧ w' = W.alloc (.cells #[.map mb] 85) :=
  (callsIn_wide (n := 5)).1 (AnyZ.keys_in keysS Fence.wide 5 trivial rfl mb W)
set_option maxHeartbeats 1000000 in
theorem ssorted_call {H : Type} (b nn : Nat) (D0 : DataW H) (R : Value → Option (DataW H × List MemPlace)) (w : World) (hown : w.ownsMap Tryz.prog 9 R b nn D0) (hmax : Maps.size D0 ≤ maxLen) (hbytes : Maps.size D0 * 16 ≤ 140737488355328) :
    Calls Tryz.prog 109 #[.func (.func 169) #[] #[.pointer (some ⟨w.heap.size, 0, none⟩)]] (w.alloc (.cells #[.map (some b)] 85)) fun e w' =>
      ∃ (v : Value) (ss : List (List UInt8)), e = .returned v ∧ ss.Perm (strKeys D0) ∧
      w'.ownsRow (w.alloc (.cells #[.map (some b)] 85)).heap.size 9 1 v ss.length ((ss.mergeSort (fun x y => decide (x ≤ y))).map encStr) ∧ (v = .slice none 0 0 ↔ ss = []) ∧ Below (w.alloc (.cells #[.map (some b)] 85)).heap.size (w.alloc (.cells #[.map (some b)] 85)) w' := by
  have hbl := hown.lt
  have hseq : SeqGives Fence.wide 2 Tryz.prog 169 #[.pointer (some ⟨w.heap.size, 0, none⟩)] encStr (fun ss => ss.Perm (strKeys D0)) (Maps.size D0) (w.alloc (.cells #[.map (some b)] 85)) :=
    AnyZ.keys_gives (ρ := keysS_ren) { keysS with } Fence.wide _ trivial rfl (by omega) w.heap.size b nn D0 _ (by simp) (by simp) (by
      obtain ⟨es, clock, hb, Ft, hs, hD⟩ := hown
      exact ⟨es, clock, (Below.heap_alloc _ _ b hbl).trans hb, Ft, hs, hD⟩)
  have cS := AnyZ.sorted_in sortedS Fence.wide 5 trivial trivial trivial trivial rfl (by omega) (sortsS _) (enters_of Tryz.func168 (by kernel_rfl) rfl) 169 #[.pointer (some ⟨w.heap.size, 0, none⟩)] trivial (enters_of Tryz.func169 (by kernel_rfl) rfl) _ _ hmax hbytes _ hseq
  exact (callsIn_wide (n := 5)).1 cS
end Sh
end Go.Proofs.YtbkanoblcojdfaaGreat

namespace Go.Proofs.YtbkanoblcojdfaaGreat
namespace Sh
open Go.RowKit Go.Maps Go.Sort Bk Ch Lt Rc Tr
theorem less_le : ∀ x y : List UInt8, Op.bytesLess x y = true → x ≤ y
  | [], _, _ => List.nil_le _
  | _ :: _, [], h => by rw [bytesLess_nil2] at h; cases h
  | a :: x, b :: y, h => by
    unfold Op.bytesLess at h
    simp only [Bool.or_eq_true, Bool.and_eq_true, decide_eq_true_eq, beq_iff_eq] at h
    rw [List.cons_le_cons_iff]
    rcases h with h | ⟨h1, h2⟩
    · exact .inl h
    · exact .inr ⟨h1, less_le x y h2⟩
theorem lt_le {a b : ByteArray} (h : ltK a b = true) : a.data.toList ≤ b.data.toList := by
  have h1 := less_le _ _ h
  rwa [ByteArray.toList_eq, ByteArray.toList_eq] at h1
theorem str_keys {w : World} {b n : Nat} {D : DataW Value} {m : List (ByteArray × Value)} (h : w.ownsMap Tryz.prog 9 rdV b n D) (hs : MSays strQ D m) : (m.map (fun p => p.1.data.toList)).Perm (strKeys D) := by
  obtain ⟨es, hD, hpw, _⟩ := h.entries strQ.keyed
  obtain ⟨es', hD', hko⟩ := h.keysOf
  obtain rfl : es = es' := by rw [hD] at hD'; simpa using hD'
  subst hD
  have inj : ∀ x y : ByteArray, x.data.toList = y.data.toList → x = y := fun x y e => by
    obtain ⟨a⟩ := x
    obtain ⟨b⟩ := y
    congr 1
    exact Array.toList_inj.1 e
  refine perm_strKeys hpw (fun p hp => by
    obtain ⟨v, hv⟩ := hko p hp
    obtain ⟨s, _, e, _⟩ := WideMaps.string_of_keyOf Tryz.underlying9 hv
    exact ⟨_, e⟩) ?_ (fun x => ?_)
  · have h1 := hs.nodup
    rw [show (m.map fun p => p.1.data.toList) = (m.map (·.1)).map (fun k => k.data.toList) by rw [List.map_map]; rfl]
    exact List.pairwise_map.2 (h1.imp fun hne e => hne (inj _ _ e))
  · have h1 := hs.has ⟨x.toArray⟩
    have e : strQ.kl ⟨x.toArray⟩ = .string x := rfl
    rw [e] at h1
    rw [h1]
    constructor
    · intro hm
      obtain ⟨p, hp, rfl⟩ := List.mem_map.1 hm
      exact List.mem_map.2 ⟨p, hp, rfl⟩
    · intro hm
      obtain ⟨p, hp, e2⟩ := List.mem_map.1 hm
      exact List.mem_map.2 ⟨p, hp, by rw [e2]⟩
theorem enc_str (l : List ByteArray) : (l.map (fun k => k.data.toList)).map encStr = strV l := by
  unfold strV
  rw [List.map_map]
  exact List.map_congr_left fun k _ => rfl
theorem sorted_strs {w : World} {b : Nat} {m : List (ByteArray × Value)} (h : MapIs strQ w b m) {l : List ByteArray} (hl : l.Pairwise (fun x y => ltK x y = true)) (hp : (m.map (·.1)).Perm l) (hn : m.length ≤ 2048) :
    Calls Tryz.prog 109 #[.func (.func 169) #[] #[.pointer (some ⟨w.heap.size, 0, none⟩)]] (w.alloc (.cells #[.map (some b)] 85)) fun e w' =>
      ∃ v : Value, e = .returned v ∧ w'.ownsRow w.heap.size 9 1 v l.length (strV l) ∧ Below w.heap.size w w' := by
  obtain ⟨D, hown, hsays⟩ := h
  have hsz := says_size hown hsays
  have hml : m.length = l.length := by have := hp.length_eq; rwa [List.length_map] at this
  refine (ssorted_call b m.length D rdV w hown (by unfold maxLen; omega) (by omega)).mono ?_
  rintro e w' ⟨v, ss, rfl, hpp, hrow, _, hb⟩
  have hp2 : (m.map (fun p => p.1.data.toList)).Perm (l.map (fun k => k.data.toList)) := by
    rw [show (m.map fun p => p.1.data.toList) = (m.map (·.1)).map (fun k => k.data.toList) by rw [List.map_map]; rfl]
    exact hp.map _
  have hperm : ss.Perm (l.map (fun k => k.data.toList)) := hpp.trans ((str_keys hown hsays).symm.trans hp2)
  have hsort : ss.mergeSort (fun x y => decide (x ≤ y)) = l.map (fun k => k.data.toList) := by
    have h1 := mergeSort_of_perm hperm
    have h2 : (l.map (fun k => k.data.toList)).mergeSort leB = l.map (fun k => k.data.toList) := List.mergeSort_of_pairwise (List.pairwise_map.2 (hl.imp fun {a b} hab => by simp only [leB, decide_eq_true_eq]; exact lt_le hab))
    exact h1.trans h2
  have hlen : ss.length = l.length := by have := hperm.length_eq; rwa [List.length_map] at this
  rw [hsort, enc_str, hlen] at hrow
  exact ⟨v, rfl, own_base hrow (by simp), ((Below.refl _ w).alloc (Nat.le_refl _) _).trans (hb.mono (by simp))⟩
end Sh
end Go.Proofs.YtbkanoblcojdfaaGreat

namespace Go.Proofs.YtbkanoblcojdfaaGreat
namespace Sh
open Go.RowKit Bk Ch Lt Rc Tr
def Rb (x : RI) (a : Nat) : Prop := (0 < x.l.keys.length ∧ ∃ ad, x.A = some ad ∧ ad.block = a) ∨ (0 < x.l.ws.length ∧ ∃ ad, x.B = some ad ∧ ad.block = a)
structure OutL (W w : World) (v : Value) (X : List RI) : Prop where
  row : w.ownsRow W.heap.size 37 9 v X.length (X.flatMap rcs)
  pv : ∀ x ∈ X, PVal w (fun k => v.ownBlock = some k) x
  new : ∀ x ∈ X, NewR W.heap.size x
  ord : X.Pairwise (fun x y => ∀ a b, Rb x a → Rb y b → a < b)
  fr : ∀ x ∈ X, FrK w x
theorem rb_lt {w : World} {M : Nat → Prop} {x : RI} (h : PVal w M x) {a : Nat} (hb : Rb x a) : a < w.heap.size := by
  rcases hb with ⟨hp, ad, e, rfl⟩ | ⟨hp, ad, e, rfl⟩
  · obtain ⟨ad', e', hl, _⟩ := h.val.ks hp
    rw [e] at e'
    obtain rfl := Option.some.inj e'
    exact hl
  · obtain ⟨ad', e', hl, _⟩ := h.val.ws hp
    rw [e] at e'
    obtain rfl := Option.some.inj e'
    exact hl
theorem rb_ge {X : Nat} {x : RI} (h : NewR X x) {a : Nat} (hb : Rb x a) : X ≤ a := by
  rcases hb with ⟨hp, ad, e, rfl⟩ | ⟨hp, ad, e, rfl⟩
  · exact h.ks hp ad e
  · exact h.ws hp ad e
section
variable {W w w1 w2 : World} {v v' : Value} {X : List RI} {y : RI}
theorem OutL.below (h : OutL W w v X) (hb : Below w.heap.size w w1) : OutL W w1 v X :=
  ⟨st_keep h.row hb, fun x hx => (h.pv x hx).both (Away.of hb) (fun _ hk => .inl hk), h.new, h.ord, fun x hx => (h.fr x hx).below hb⟩
theorem OutL.none (w : World) : OutL w w (.slice none 0 0) [] :=
  ⟨World.ownsRow_nil _ _ _ _, by simp, by simp, List.Pairwise.nil, by simp⟩
theorem OutL.grow (h : OutL W w v X) (hW : W.heap.size ≤ w.heap.size) (hb : Below w.heap.size w w1) (hv : RecVal w1 y.A y.B y.c y.d y.l) (hn : NewR w.heap.size y) (hfr : FrK w1 y)
    (ho : w2.ownsRow W.heap.size 37 9 v' (X.length + 1) (X.flatMap rcs ++ rcs y)) (hg : (w1.alloc (.cells (rcs y).toArray 37)).grownBy w2 v.ownBlock)
    (hat : v'.ownBlock = v.ownBlock ∨ v'.ownBlock = some (w1.heap.size + 1)) : OutL W w2 v' (X ++ [y]) := by
  have hb1 := (Below.refl _ w1).alloc (Nat.le_refl _) (.cells (rcs y).toArray 37)
  have hsz : (w1.alloc (.cells (rcs y).toArray 37)).heap.size = w1.heap.size + 1 := Array.size_push ..
  rw [← hsz] at hat
  have hlt : ∀ k, v.ownBlock = some k → k < w.heap.size := fun k hk => (h.row.lt k hk).2
  have aw : Away (fun k => v.ownBlock = some k) (w1.alloc (.cells (rcs y).toArray 37)) w2 := ⟨hg.size, fun k hk hn => hg.block k hk (fun e => hn e.symm)⟩
  have tn : ∀ k, v'.ownBlock = some k → v.ownBlock = some k ∨ (w1.alloc (.cells (rcs y).toArray 37)).heap.size ≤ k := fun k hk => by
    rcases hat with e | e
    · exact .inl (by rw [← e]; exact hk)
    · rw [e] at hk
      exact .inr (by rw [Option.some.inj hk]; exact Nat.le_refl _)
  have hy1 : PVal w1 (fun k => v.ownBlock = some k) y := pval_new hv hn hlt
  have h1 : ∀ x ∈ X ++ [y], PVal w1 (fun k => v.ownBlock = some k) x := fun x hx => by
    rcases List.mem_append.1 hx with hx | hx
    · exact (h.below hb).pv x hx
    · rw [List.mem_singleton.1 hx]
      exact hy1
  have hfr2 : ∀ x ∈ X ++ [y], FrK w2 x := fun x hx hp => by
    have hf : FrK w1 x := by
      rcases List.mem_append.1 hx with hx | hx
      · exact (h.fr x hx).below hb
      · rw [List.mem_singleton.1 hx]; exact hfr
    exact ((hf.below hb1).keep (fun ad e hl => hg.block _ hl (fun e2 => (h1 x hx).ka hp ad e e2.symm))) hp
  refine ⟨?_, fun x hx => ((h1 x hx).both (Away.of hb1) (fun _ hk => .inl hk)).both aw tn, fun x hx => ?_, ?_, hfr2⟩
  · rw [List.length_append, List.flatMap_append]
    simpa using ho
  · rcases List.mem_append.1 hx with hx | hx
    · exact h.new x hx
    · rw [List.mem_singleton.1 hx]
      exact ⟨fun hp ad e => Nat.le_trans hW (hn.ks hp ad e), fun hp ad e => Nat.le_trans hW (hn.ws hp ad e)⟩
  · refine List.pairwise_append.2 ⟨h.ord, List.pairwise_singleton .., fun x hx z hz a b ha hb' => ?_⟩
    rw [List.mem_singleton.1 hz] at hb'
    exact Nat.lt_of_lt_of_le (rb_lt (h.pv x hx) ha) (rb_ge hn hb')
end
end Sh
end Go.Proofs.YtbkanoblcojdfaaGreat
