/- All that is asked of the landed packages of a log and its device; no condition but the ranges. -/
import Derived.Test.YtjehjbkcdpidbaaGreatRlRst
import Derived.Test.YtjehjbkcdpidbaaGreatRlRep
import Derived.Test.YtjehjbkcdpidbaaGreatB11
namespace Go.Proofs.YtjehjbkcdpidbaaGreat
namespace Rd
open Go.RowKit Sc Bk

theorem devQ : DevQ Sc.Rep where
  lt := fun h => devBase.lt h
  ok := fun h => devBase.ok h
  kept := fun h hk => devBase.kept h hk
  size := fun {F g D} w h => by
    obtain ⟨a, b, rfl, h1, h2⟩ := h
    exact lsize_any h1
  read := fun {F g D} i w h hi => by
    obtain ⟨a, b, rfl, h1, h2⟩ := h
    exact lread_any h1 h2 i hi

theorem logF : LogF 12 14 15 26 36 Sc.Rep LRep where
  lt := fun {W F p g n l} h => by
    obtain ⟨A, B, rfl, h1⟩ := h
    exact h1.lt
  kept := fun {W W' F p g n l} h hk => by
    obtain ⟨A, B, rfl, h1⟩ := h
    exact ⟨A, B, rfl, h1.kept hk⟩
  opn := fun {F g D} w h => by
    refine (open_any repTxt devBase devQ h).mono ?_
    intro e w' hp
    exact hp
  app := fun {F L g p D l} t w h hl hd hi _ ht => by
    obtain ⟨A, B, rfl, h1⟩ := hl
    refine (append_any devQ h h1 hd hi t ht).mono ?_
    rintro e w' ⟨rfl, F', A', B', q1, q2, q3, q4⟩
    exact ⟨rfl, F', _, q1, ⟨A', B', rfl, q2⟩, q3, q4⟩
  syn := fun {F L g p D l} w h hl hd hi hu => by
    obtain ⟨A, B, rfl, h1⟩ := hl
    refine (sync_any repTxt devBase devQ h h1 hd hi hu).mono ?_
    rintro e w' ⟨rfl, F', A', B', q1, q2, q3, q4⟩
    exact ⟨rfl, F', _, q1, ⟨A', B', rfl, q2⟩, q3, q4⟩
  room := fun {F L g p D l} w h hl hd hi _ => by
    obtain ⟨A, B, rfl, h1⟩ := hl
    refine (room_any devQ h h1 hi.ok).mono ?_
    rintro e w' ⟨rfl, hb⟩
    exact ⟨rfl, F, LFt p A B, devQ.step h hb, ⟨A, B, rfl, h1.step hb⟩, hd, fr_refl_below hb⟩
  rst := fun {F L g p D l} E cE ts w h hl hd hi hu hE hEn hEo hn hs hq => by
    obtain ⟨A, B, rfl, h1⟩ := hl
    refine (restart_any repTxt devBase devQ h h1 hd hi hu E cE ts hE hEn hEo hn hs hq).mono ?_
    rintro e w' ⟨rfl, F', A', B', q1, q2, q3, q4⟩
    exact ⟨rfl, F', _, q1, ⟨A', B', rfl, q2⟩, q3, q4⟩

theorem logAll : LogAll Sc.Rep LRep where
  log := logF
  texts := fun {F L g p D l} w h hl hd hi _ => by
    obtain ⟨A, B, rfl, h1⟩ := hl
    have hmy := hi.ok.many
    refine (ltexts_any h1 (by omega) (fun s hs => by have := hi.small s hs; omega)).mono ?_
    rintro e w' ⟨v, rfl, hown, hb⟩
    have hlt := devQ.lt h
    exact ⟨v, F, LFt p A B, rfl, hown, fun b hb2 => ⟨fun hf => by have := own_ge hown b hb2; have := hlt b hf; omega, fun hf => by have := own_ge hown b hb2; have := h1.lt b hf; omega⟩, devQ.step h hb, ⟨A, B, rfl, h1.step hb⟩, hd, fr_refl_below hb⟩
  synced := fun {F L g p D l} w h hl hd hi _ => by
    obtain ⟨A, B, rfl, h1⟩ := hl
    refine (synced_any h1).mono ?_
    rintro e w' ⟨rfl, rfl⟩
    exact ⟨rfl, F, LFt p A B, h, ⟨A, B, rfl, h1⟩, hd, Fr.refl _ _⟩

end Rd
end Go.Proofs.YtjehjbkcdpidbaaGreat
