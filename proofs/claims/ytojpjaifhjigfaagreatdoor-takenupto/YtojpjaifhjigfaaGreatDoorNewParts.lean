/- newLasting, newBreaker, slices.Repeat for no batch, strings.Clone: the parts of a new agent. -/
import Derived.Test.YtojpjaifhjigfaaGreatDoorLane
import Derived.Test.YtojpjaifhjigfaaGreatDoorErrWalk
import Derived.Shelf.SlMaps.Clone
import Derived.Laws.EntriesVeiled
import Derived.Deep.QuietTactic
import Derived.Deep.RegionHeld3
namespace Go.Proofs.YtojpjaifhjigfaaGreatDoor
open Go.RowKit Go.Maps
attribute [local go_sem] run_store_float

theorem obj_new {V : World} {n : Nat} (h : V.heap.size = n) (o : Obj) : (V.alloc o).heap[n]? = some o := by
  subst h
  show (V.heap.push o)[V.heap.size]? = _
  simp

set_option maxHeartbeats 400000 in
theorem newLasting_any (w : World) : Calls Tryz.prog 99 #[] w fun e w' => ∃ b, e = .returned (.agg #[.slice none 0 0, .map (some b), .slice none 0 0, .string ⟨#[]⟩]) ∧ Below w.heap.size w w' ∧ w.heap.size ≤ b ∧ w'.heap[b]? = some (.map #[] 0) := by
  have hmm := @run_makeMap Tryz.prog
  go_enter Tryz.func99, Tryz.ntmps99
  go_wp2
  exact bodyPost_ret (v := .agg #[.slice none 0 0, .map (some (w.heap.size + 1)), .slice none 0 0, .string ⟨#[]⟩]) (by simp [results, Tryz.results99, go_sem]) rfl ⟨_, rfl, ((Below.refl _ _).alloc (Nat.le_refl _) _).alloc (by simp) _, by omega, obj_new (by simp) _⟩

set_option maxHeartbeats 400000 in
theorem newBreaker_any (c : Cfg) (m : Option Nat) (w : World) : Calls Tryz.prog 128 #[c.val m] w fun e w' => ∃ g, e = .returned (.agg #[.func (.func 152) #[] #[.pointer (some ⟨g, 0, none⟩)], .int .i64 0, .int .i64 0, .bool false, .int .i64 0]) ∧ Below w.heap.size w w' ∧ w.heap.size ≤ g ∧ Blk w' g #[.float .f64 c.th] 23 := by
  have hmf : ∀ (fn : Fn) (first cap : Array Value) (w : World), (Instr.makeFunc fn first cap).run Tryz.prog w = .ok (.func fn first cap) w := fun _ _ _ _ => rfl
  go_enter Tryz.func128, Tryz.ntmps128
  go_wp2
  refine bodyPost_ret (v := .agg #[.func (.func 152) #[] #[.pointer (some ⟨w.heap.size + 2, 0, none⟩)], .int .i64 0, .int .i64 0, .bool false, .int .i64 0]) (by simp [results, Tryz.results128, go_sem]) rfl ⟨_, rfl, ?_, ?_, ?_⟩
  · exact (((Below.refl _ _).alloc (Nat.le_refl _) _).alloc (by simp) _).alloc (by simp; omega) _
  · omega
  · exact Blk.made (by simp) _ _
end Go.Proofs.YtojpjaifhjigfaaGreatDoor
