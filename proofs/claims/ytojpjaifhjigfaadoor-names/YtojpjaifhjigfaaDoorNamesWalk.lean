/- The walk of conduitlaw.Names: with the eleven sentinels as listed, it returns true and turns no old memory. -/
import Derived.Test.YtojpjaifhjigfaaDoorProg
import Derived.Test.YtojpjaifhjigfaaDoorSents
import Derived.WalkKit
import Derived.WalkSpells
import Derived.WalkLawsBesides
import Derived.Deep.QuietTactic
import Derived.BigQuiet
import Derived.Stop.LaidErr
import Derived.Outline
namespace Go.Proofs.YtojpjaifhjigfaaDoor
open Go.RowKit

/-- A sentinel's value. -/
abbrev ev (A : Nat → Addr) (i : Nat) : Value := .iface 27 (.pointer (some (A i)))
/-- The new array of errors(). -/
abbrev errCells (A : Nat → Addr) : Array Value := #[ev A 0, ev A 1, ev A 2, ev A 3, ev A 4, ev A 5, ev A 6, ev A 7, ev A 8, ev A 9, ev A 10]

set_option maxHeartbeats 400000 in
theorem errors_any (A : Nat → Addr) (w : World) (hS : Sents.Holds w 27 0 11 A) :
    Calls Tryd.prog 4 #[] w fun e w' => e = .returned (.slice (some ⟨w.heap.size, 0, none⟩) 11 11) ∧ w' = w.alloc (.cells (errCells A) 25) := by
  have h0 := hS.cell 0 (by decide)
  have h1 := hS.cell 1 (by decide)
  have h2 := hS.cell 2 (by decide)
  have h3 := hS.cell 3 (by decide)
  have h4 := hS.cell 4 (by decide)
  have h5 := hS.cell 5 (by decide)
  have h6 := hS.cell 6 (by decide)
  have h7 := hS.cell 7 (by decide)
  have h8 := hS.cell 8 (by decide)
  have h9 := hS.cell 9 (by decide)
  have h10 := hS.cell 10 (by decide)
  simp only [Nat.zero_add] at h0 h1 h2 h3 h4 h5 h6 h7 h8 h9 h10
  clear hS
  go_enter Tryd.func4, Tryd.ntmps4
  go_wp2
  go_ret
  exact ⟨rfl, rfl⟩

set_option maxHeartbeats 400000 in
theorem given_any (w : World) : Calls Tryd.prog 5 #[] w fun e w' => e = .returned (.bool true) ∧ w' = w := by
  go_enter Tryd.func5, Tryd.ntmps5
  go_wp2
  go_ret
  exact ⟨rfl, rfl⟩

theorem errCell (A : Nat → Addr) (w : World) (k : Nat) (h : k < 11) : (w.alloc (.cells (errCells A) 25)).cell? ⟨w.heap.size, k, none⟩ = some (ev A k) := by
  rw [World.cell?_alloc_new]
  match k, h with
  | 0, _ => rfl
  | 1, _ => rfl
  | 2, _ => rfl
  | 3, _ => rfl
  | 4, _ => rfl
  | 5, _ => rfl
  | 6, _ => rfl
  | 7, _ => rfl
  | 8, _ => rfl
  | 9, _ => rfl
  | 10, _ => rfl

theorem comp121 : (Tryd.prog.info? 27).map (·.comparable) = some true := by kernel_rfl
theorem size142 : (Tryd.prog.info? 45).map (·.size) = some 1 := by kernel_rfl

/-- Two sentinels are held against each other. -/
theorem eql_other (A : Nat → Addr) (w wx : World) (hh : wx.heap = w.heap) (hS : Sents.Holds w 27 0 11 A) (i j : Nat) (hi : i < 11) (hj : j < 11) (hne : i ≠ j) :
    (binOp .eql 25 (ev A i) (ev A j)).run Tryd.prog wx = .ok (.bool false) wx := by
  obtain ⟨i1, hi1, hcmp⟩ := Option.map_eq_some_iff.1 comp121
  obtain ⟨j1, hj1, hjs⟩ := Option.map_eq_some_iff.1 size142
  obtain ⟨c0, t0, hb0⟩ := hS.block i hi
  obtain ⟨c1, t1, hb1⟩ := hS.block j hj
  rw [← hh] at hb0 hb1
  exact run_eql_iface_ptr_other wx Tryd.underlying25 Tryd.underlying27 hi1 hcmp hj1 (by rw [hjs]; decide) (fun e => hne (hS.inj i j hi hj e)) hb0 hb1

theorem Sents.Holds.alloc {w : World} {tp : TypeId} {g n : Nat} {A : Nat → Addr} (h : Sents.Holds w tp g n A) (o : Obj) : Sents.Holds (w.alloc o) tp g n A :=
  ⟨fun i hi => cell?_alloc_old o (h.cell i hi), fun i hi => by
    obtain ⟨c, t, hb⟩ := h.block i hi
    refine ⟨c, t, ?_⟩
    have hlt : (A i).block < w.heap.size := by
      rcases Nat.lt_or_ge (A i).block w.heap.size with h' | h'
      · exact h'
      · simp [Array.getElem?_eq_none h'] at hb
    show (w.heap.push o)[(A i).block]? = _
    simp only [Array.getElem?_push, Nat.ne_of_lt hlt, if_false]
    exact hb, h.inj⟩

set_option maxHeartbeats 400000 in
theorem names_any (A : Nat → Addr) (w : World) (hS0 : Sents.Holds w 27 0 11 A) :
    Calls Tryd.prog 3 #[] w fun e w' => e = .returned (.bool true) ∧ Below w.heap.size w w' := by
  have hS : Hid (Sents.Holds w 27 0 11 A) := hS0
  clear hS0
  go_enter Tryd.func3, Tryd.ntmps3
  go_wp2_with fail
  refine (errors_any A _ hS.out).mono ?_
  rintro e w' ⟨rfl, rfl⟩
  go_wp2_with fail
  generalize hW : w.alloc (Obj.cells (errCells A) 25) = W
  have hB : Hid (Below w.heap.size w W) := by rw [← hW]; exact (Below.refl _ _).alloc (Nat.le_refl _) _
  have hc : Hid (∀ k, k < 11 → W.cell? ⟨w.heap.size, k, none⟩ = some (ev A k)) := by rw [← hW]; exact fun k h => errCell A w k h
  have hE : Hid (Sents.Holds W 27 0 11 A) := by rw [← hW]; exact hS.out.alloc _
  clear hW
  go_loopw [2] (fun i wr => ∃ n k : Nat, k ≤ 11 ∧ i = .int .i64 k ∧ wr = W.drewN n) (fun i _ => 11 - (intOf i).toNat)
  case atStart => exact ⟨0, 0, by omega, rfl, rfl⟩
  case round =>
    obtain ⟨n, k, hk, rfl, rfl⟩ := hrel
    by_cases hlt : k < 11
    · have hck := hc.out k hlt
      have hltI : (k : Int) < 11 := by omega
      go_wp2_with fail
      go_loopw [3] (fun i wr => ∃ m j : Nat, j ≤ k ∧ i = .int .i64 j ∧ wr = W.drewN m) (fun i _ => k - (intOf i).toNat)
      case atStart => exact ⟨n, 0, by omega, rfl, rfl⟩
      case round =>
        obtain ⟨m, j, hj, rfl, rfl⟩ := hrel
        by_cases hjk : j < k
        · have hcj := hc.out j (by omega)
          have hjI : (j : Int) < 11 := by omega
          have heq := fun nq => eql_other A W (W.drewN nq) rfl hE.out j k (by omega) hlt (by omega)
          go_wp2_with fail
          go_quiet (fail)
          go_wp2_with fail
          go_roundw
          case rel => exact ⟨_, j + 1, by omega, by go_num, rfl⟩
          case measure => simp [intOf]; omega
        · go_wp2_with fail
          go_roundw
          case rel => exact ⟨m, k + 1, by omega, by go_num, rfl⟩
          case measure => simp [intOf]; omega
    · go_wp2_with fail
      refine (given_any _).mono ?_
      rintro e w' ⟨rfl, rfl⟩
      go_wp2_with fail
      go_ret
      exact ⟨rfl, below_drewN hB.out n⟩

end Go.Proofs.YtojpjaifhjigfaaDoor
