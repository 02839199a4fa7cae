/- The eleven errors: what conduitlaw.errors answers, and how two are held against each other. -/
import Derived.Test.YtojpjaifhjigfaaGreatDoorProg
import Derived.Test.YtojpjaifhjigfaaGreatDoorSentsAny
import Derived.WalkKit
import Derived.WalkSpells
import Derived.WalkLawsBesides
import Derived.Deep.QuietTactic
import Derived.BigQuiet
import Derived.Stop.LaidErr
import Derived.Outline
namespace Go.Proofs.YtojpjaifhjigfaaGreatDoor
open Go.RowKit

/-- The numbers of the eleven errors' variables. -/
abbrev gl : List Nat := [0, 2, 4, 7, 5, 8, 9, 10, 6, 3, 1]
/-- A sentinel's value. -/
abbrev ev (A : Nat → Addr) (i : Nat) : Value := .iface 260 (.pointer (some (A i)))
/-- The new array of errors(). -/
abbrev errCells (A : Nat → Addr) : Array Value := #[ev A 0, ev A 1, ev A 2, ev A 3, ev A 4, ev A 5, ev A 6, ev A 7, ev A 8, ev A 9, ev A 10]

set_option maxHeartbeats 400000 in
theorem errors_any (A : Nat → Addr) (w : World) (hS : Sents.Holds w 260 gl 11 A) :
    Calls Tryz.prog 87 #[] w fun e w' => e = .returned (.slice (some ⟨w.heap.size, 0, none⟩) 11 11) ∧ w' = w.alloc (.cells (errCells A) 71) := by
  have h0 := hS.cell 0 (by decide)
  have h1 := hS.cell 1 (by decide)
  have h2 := hS.cell 2 (by decide)
  have h3 := hS.cell 3 (by decide)
  have h4 := hS.cell 4 (by decide)
  have h5 := hS.cell 5 (by decide)
  have h6 := hS.cell 6 (by decide)
  have h7 := hS.cell 7 (by decide)
  have h8 := hS.cell 8 (by decide)
  have h9 := hS.cell 9 (by decide)
  have h10 := hS.cell 10 (by decide)
  simp only [gl, List.getD_cons_zero, List.getD_cons_succ] at h0 h1 h2 h3 h4 h5 h6 h7 h8 h9 h10
  clear hS
  go_enter Tryz.func87, Tryz.ntmps87
  go_wp2
  go_ret
  exact ⟨rfl, rfl⟩

theorem errCell (A : Nat → Addr) (w : World) (k : Nat) (h : k < 11) : (w.alloc (.cells (errCells A) 71)).cell? ⟨w.heap.size, k, none⟩ = some (ev A k) := by
  rw [World.cell?_alloc_new]
  match k, h with
  | 0, _ => rfl
  | 1, _ => rfl
  | 2, _ => rfl
  | 3, _ => rfl
  | 4, _ => rfl
  | 5, _ => rfl
  | 6, _ => rfl
  | 7, _ => rfl
  | 8, _ => rfl
  | 9, _ => rfl
  | 10, _ => rfl

theorem comp121 : (Tryz.prog.info? 260).map (·.comparable) = some true := by kernel_rfl
theorem size142 : (Tryz.prog.info? 274).map (·.size) = some 1 := by kernel_rfl

/-- Two sentinels are held against each other. -/
theorem eql_other (A : Nat → Addr) (w wx : World) (hh : wx.heap = w.heap) (hS : Sents.Holds w 260 gl 11 A) (i j : Nat) (hi : i < 11) (hj : j < 11) (hne : i ≠ j) :
    (binOp .eql 71 (ev A i) (ev A j)).run Tryz.prog wx = .ok (.bool false) wx := by
  obtain ⟨i1, hi1, hcmp⟩ := Option.map_eq_some_iff.1 comp121
  obtain ⟨j1, hj1, hjs⟩ := Option.map_eq_some_iff.1 size142
  obtain ⟨c0, t0, hb0⟩ := hS.block i hi
  obtain ⟨c1, t1, hb1⟩ := hS.block j hj
  rw [← hh] at hb0 hb1
  exact run_eql_iface_ptr_other wx Tryz.underlying71 Tryz.underlying260 hi1 hcmp hj1 (by rw [hjs]; decide) (fun e => hne (hS.inj i j hi hj e)) hb0 hb1

theorem Sents.Holds.alloc {w : World} {tp : TypeId} {g : List Nat} {n : Nat} {A : Nat → Addr} (h : Sents.Holds w tp g n A) (o : Obj) : Sents.Holds (w.alloc o) tp g n A :=
  ⟨fun i hi => cell?_alloc_old o (h.cell i hi), fun i hi => by
    obtain ⟨c, t, hb⟩ := h.block i hi
    refine ⟨c, t, ?_⟩
    have hlt : (A i).block < w.heap.size := by
      rcases Nat.lt_or_ge (A i).block w.heap.size with h' | h'
      · exact h'
      · simp [Array.getElem?_eq_none h'] at hb
    show (w.heap.push o)[(A i).block]? = _
    simp only [Array.getElem?_push, Nat.ne_of_lt hlt, if_false]
    exact hb, h.inj⟩

end Go.Proofs.YtojpjaifhjigfaaGreatDoor
