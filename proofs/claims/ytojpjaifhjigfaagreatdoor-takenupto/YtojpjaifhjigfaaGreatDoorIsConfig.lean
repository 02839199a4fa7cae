/- isConfig, and maps.Clone, newLasting, newBreakers, newAgent, Open: the program's side of opening. -/
import Derived.Test.YtojpjaifhjigfaaGreatDoorQuanta
namespace Go.Proofs.YtojpjaifhjigfaaGreatDoor
open Go.RowKit Go.Maps

/-- More entries than any argument can bring. -/
abbrev big : Nat := 8796093022208
/-- The map value m (nil: none) reads as D. -/
def MapAt (w : World) (m : Option Nat) (D : DataW Unit) : Prop := (m = none ∧ D = .map []) ∨ ∃ b n, m = some b ∧ OM w b n D ∧ n ≤ big
theorem MapAt.below {w w' : World} {m : Option Nat} {D : DataW Unit} (h : MapAt w m D) {B : Nat} (hb : Below B w w') (hB : w.heap.size ≤ B) : MapAt w' m D := by
  rcases h with h | ⟨b, n, h1, h2, h3⟩
  · exact Or.inl h
  · exact Or.inr ⟨b, n, h1, om_below h2 hb (Nat.lt_of_lt_of_le h2.lt hB), h3⟩
theorem MapAt.alloc {w : World} {m : Option Nat} {D : DataW Unit} (h : MapAt w m D) (o : Obj) : MapAt (w.alloc o) m D := h.below ((Below.refl _ _).alloc (Nat.le_refl _) _) (Nat.le_refl _)

theorem areQuanta_any (m : Option Nat) (D : DataW Unit) (w : World) (h : MapAt w m D) : Calls Tryz.prog 96 #[.map m] w fun e w' => ∃ r, e = .returned (.bool r) ∧ (r = true ↔ GoodQ D) ∧ Below w.heap.size w w' := by
  rcases h with ⟨rfl, rfl⟩ | ⟨b, n, rfl, h2, _⟩
  · refine (areQuanta_nil w).mono ?_
    rintro e w' ⟨rfl, hb⟩
    exact ⟨false, rfl, ⟨fun h => (by cases h), fun h => absurd h.1.1 (by simp [Maps.size])⟩, hb⟩
  · exact areQuanta_some b n D w h2

def GoodC (c : Cfg) (D : DataW Unit) : Prop := c.numB = true ∧ GoodQ D ∧ thB c.th = true

set_option maxHeartbeats 400000 in
theorem isConfig_any (c : Cfg) (m : Option Nat) (D : DataW Unit) (w : World) (h : MapAt w m D) : Calls Tryz.prog 62 #[c.val m] w fun e w' => ∃ r, e = .returned (.bool r) ∧ (r = true ↔ GoodC c D) ∧ Below w.heap.size w w' := by
  have H := hide h
  clear h
  go_enter Tryz.func62, Tryz.ntmps62
  go_wp2_with fail
  refine (areNumbers_any _ _ _).mono ?_
  rintro e w1 ⟨rfl, hb1⟩
  obtain ⟨hc1, hf1⟩ := bcell hb1
  simp only [World.size_alloc] at hc1
  have Hb1 : Hid (Below w.heap.size w w1) := ((Below.refl _ _).alloc (Nat.le_refl _) _).trans (hb1.mono (by simp))
  have Hk1 := hide hb1
  clear hf1 hb1
  cases h1 : c.numB
  · have Hn : Hid (¬ GoodC c D) := fun h => by rw [h.1] at h1; cases h1
    go_wp2_with fail
    go_ret
    exact ⟨false, rfl, by simp [Hn.out], Hb1.out⟩
  · go_wp2_with fail
    refine (areQuanta_any m D _ ((H.out.alloc _).below Hk1.out (Nat.le_refl _))).mono ?_
    rintro e w2 ⟨r2, rfl, hr2, hb2⟩
    obtain ⟨hc2, hf2⟩ := bcell hb2
    have Hb2 : Hid (Below w.heap.size w w2) := Hb1.out.trans (hb2.mono Hb1.out.size)
    have hlt : w.heap.size < w1.heap.size := by have := Hk1.out.size; simp at this; omega
    clear hf2 hb2
    have Hr2 := hide hr2
    clear hr2
    cases r2
    · have Hn : Hid (¬ GoodC c D) := fun h => by have := Hr2.out.2 h.2.1; cases this
      go_wp2_with fail
      go_ret
      exact ⟨false, rfl, by simp [Hn.out], Hb2.out⟩
    · go_wp2_with fail
      refine (isThreshold_any _ _).mono ?_
      rintro e w3 ⟨rfl, rfl⟩
      have Hg : Hid (thB c.th = true ↔ GoodC c D) := ⟨fun h => ⟨h1, Hr2.out.1 (by trivial), h⟩, fun h => h.2.2⟩
      go_wp2_with fail
      go_ret
      exact ⟨thB c.th, rfl, Hg.out, Hb2.out⟩

end Go.Proofs.YtojpjaifhjigfaaGreatDoor
