/- All that is asked of the landed package sector; no condition but the ranges. -/
import Derived.Test.YtecgimnmccmpjaaScLand5
import Derived.Test.YtecgimnmccmpjaaScLand7
import Derived.Test.YtecgimnmccmpjaaScLaw
import Derived.Test.YtecgimnmccmpjaaScPlays
import Derived.Test.YtecgimnmccmpjaaScTears
import Derived.Test.YtecgimnmccmpjaaScFuses
import Derived.Test.YtecgimnmccmpjaaScRepeat
namespace Go.Proofs.Ytecgimnmccmpjaa
namespace Sc
open Go.RowKit Bk

theorem devAll : DevAll Rep where
  lt := fun {W F g D} h => by obtain ⟨a, b, rfl, h1, _⟩ := h; exact h1.lt
  ok := fun {W F g D} h => by obtain ⟨a, b, _, _, h2⟩ := h; exact h2
  kept := fun {W W' F g D} h hk => by obtain ⟨a, b, rfl, h1, h2⟩ := h; exact ⟨a, b, rfl, h1.kept hk, h2⟩
  new := fun n w _ => lnew_any n w
  size := fun {F g D} w h => by
    obtain ⟨a, b, rfl, h1, h2⟩ := h
    refine (lsize_any h1).mono ?_
    rintro e w' ⟨rfl, rfl⟩
    exact ⟨rfl, _, ⟨a, b, rfl, h1, h2⟩, Fr.refl _ _⟩
  read := fun {F g D} i w h hi => by
    obtain ⟨a, b, rfl, h1, h2⟩ := h
    refine (lread_any h1 h2 i hi).mono ?_
    rintro e w' ⟨rfl, hb⟩
    exact ⟨rfl, _, ⟨a, b, rfl, h1.step hb, h2⟩, (Fr.refl _ _).below hb⟩
  write := fun {F g D} i t w h hi _ => by
    obtain ⟨a, b, rfl, h1, h2⟩ := h
    refine (lwrite_any h1 h2 i hi t).mono ?_
    rintro e w' ⟨rfl, h3, h4⟩
    exact ⟨rfl, _, ⟨a, b, rfl, h3, wrD_ok h2 i t⟩, h4⟩
  flush := fun {F g D} w h => by
    obtain ⟨a, b, rfl, h1, h2⟩ := h
    refine (lflush_any h1 h2).mono ?_
    rintro e w' ⟨rfl, h3, h4⟩
    exact ⟨rfl, _, ⟨a, b, rfl, h3, flD_ok h2⟩, h4⟩
  fuse := fun {F g D} n w h _ => by
    obtain ⟨a, b, rfl, h1, h2⟩ := h
    refine (lfuse_any h1 n).mono ?_
    rintro e w' ⟨rfl, h3, h4⟩
    exact ⟨rfl, _, ⟨a, b, rfl, h3, fuD_ok h2 n⟩, h4⟩
  crash := fun {F g D} A c ps w h hp hd hl _ => by
    obtain ⟨a, b, rfl, h1, h2⟩ := h
    refine (lcrash_any h1 h2 A c ps hp hd (by unfold reachBytes at hl; omega)).mono ?_
    rintro e w' ⟨rfl, h3, h4⟩
    exact ⟨rfl, _, ⟨a, b, rfl, h3, crD_ok h2 ps⟩, h4⟩
  dirty := fun {F g D} w h => by
    obtain ⟨a, b, rfl, h1, h2⟩ := h
    refine (ldirty_any h1).mono ?_
    rintro e w' ⟨rfl, rfl⟩
    exact ⟨rfl, _, ⟨a, b, rfl, h1, h2⟩, Fr.refl _ _⟩
  wipe := fun {F g D} w h => by
    obtain ⟨a, b, rfl, h1, h2⟩ := h
    refine (lwipe_any h1 h2).mono ?_
    rintro e w' ⟨rfl, h3, h4⟩
    exact ⟨rfl, _, ⟨a, b, rfl, h3, wiD_ok h2⟩, h4⟩

end Sc
end Go.Proofs.Ytecgimnmccmpjaa
