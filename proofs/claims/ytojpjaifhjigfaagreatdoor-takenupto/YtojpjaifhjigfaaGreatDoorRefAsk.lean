/- Status and Died of the document's agent. -/
import Derived.Test.YtojpjaifhjigfaaGreatDoorRef
namespace Go.Proofs.YtojpjaifhjigfaaGreatDoor
open Go.RowKit Go.Maps

set_option maxRecDepth 100000 in
set_option maxHeartbeats 1000000 in
theorem refStatus_none (L : Labs) (who g : Nat) (R : Rf) (id : List UInt8) (w : World) (h : RefAt w L who g R) (hb : R.rs.length ≤ 120) (hid : findId R.bs id = -1) :
    Calls Tryz.prog 83 #[.pointer (some ⟨g, 0, none⟩), encStr id] w fun e w' => e = .returned (.tuple #[noStat, .int .i64 5]) ∧ Below w.heap.size w w' := by
  have H := fun o => hide (refPlace_any L who g R id (w.alloc o) (h.alloc o) hb)
  rw [hid] at H
  clear h hid
  go_enter Tryz.func83, Tryz.ntmps83
  go_wp2_with fail
  refine (H _).out.mono ?_
  rintro e w1 ⟨rfl, rfl⟩
  go_wp2_with fail
  refine bodyPost_ret (v := .tuple #[noStat, .int .i64 5]) (results_cell_and Tryz.results83 rfl (run_loadVar_mid _ _ 0 82 [.int .i64 0, .int .i64 0] _ (Blk.range (Blk.new w _ _) 0 _ rfl) Tryz.underlying82 rfl infoStatus) rfl) rfl ⟨rfl, (Below.refl _ _).alloc (Nat.le_refl _) _⟩

set_option maxRecDepth 100000 in
set_option maxHeartbeats 1000000 in
theorem refStatus_some (L : Labs) (who g : Nat) (R : Rf) (id : List UInt8) (i : Nat) (r : RBat) (w : World) (h : RefAt w L who g R) (hb : R.rs.length ≤ 120) (hid : findId R.bs id = i) (hr : R.rs[i]? = some r) :
    Calls Tryz.prog 83 #[.pointer (some ⟨g, 0, none⟩), encStr id] w fun e w' => e = .returned (.tuple #[stat r.b, .int .i64 0]) ∧ Below w.heap.size w w' := by
  have H := fun o => hide (refPlace_any L who g R id (w.alloc o) (h.alloc o) hb)
  rw [hid] at H
  obtain ⟨nv, qv, bv, dv, la, lk, h⟩ := h
  obtain ⟨ta, tc, rfl, _⟩ := h.tk.shape
  have hil : i < R.rs.length := (List.getElem?_eq_some_iff.1 hr).1
  obtain ⟨gt, rfl, hgt, _, hct, _⟩ := h.tk.head (by omega)
  have c13 : w.cell? ⟨g, 13, none⟩ = some (.slice (some ⟨gt, 0, none⟩) R.rs.length tc) := h.blk.1.cell 13
  have c4 : w.cell? ⟨gt, i * 8 + 4, none⟩ = some (.int .i64 r.b.st) := hct _ _ (RBat.cell hr (by omega) rfl)
  have c5 : w.cell? ⟨gt, i * 8 + 5, none⟩ = some (.int .i64 r.b.fl) := hct _ _ (RBat.cell hr (by omega) rfl)
  have hilI : (i : Int) < (R.rs.length : Int) := by omega
  have hi0 : ¬ ((i : Int) < 0) := by omega
  have n13 := fun o => cell?_alloc_old o c13
  have n4 := fun o => cell?_alloc_old o c4
  have n5 := fun o => cell?_alloc_old o c5
  clear h hid hct
  go_enter Tryz.func83, Tryz.ntmps83
  go_wp2_with fail
  refine (H _).out.mono ?_
  rintro e w1 ⟨rfl, rfl⟩
  go_wp2_with fail
  go_region
  all_goals
    go_wp2_with fail
    refine bodyPost_ret (v := .tuple #[stat r.b, .int .i64 0]) (results_cell_and Tryz.results83 rfl (run_loadVar_mid _ _ 0 82 [.int .i64 r.b.st, .int .i64 r.b.fl] _ (Blk.range (Blk.new w _ _) 0 _ rfl) Tryz.underlying82 rfl infoStatus) rfl) rfl ⟨rfl, ((Below.refl _ _).alloc (Nat.le_refl _) _).drew⟩

set_option maxHeartbeats 400000 in
theorem refDied_nil (L : Labs) (who g : Nat) (R : Rf) (w : World) (h : RefAt w L who g R) (hd : R.dead = []) : Calls Tryz.prog 79 #[.pointer (some ⟨g, 0, none⟩)] w fun e w' => e = .returned (.slice none 0 0) ∧ w' = w := by
  obtain ⟨nv, qv, bv, dv, la, lk, h⟩ := h
  obtain ⟨da, dc, rfl, _⟩ := h.dd.shape
  have c14 : w.cell? ⟨g, 14, none⟩ = some (.slice da 0 dc) := by
    have := h.blk.1.cell 14
    simpa [hd] using this
  clear h
  go_enter Tryz.func79, Tryz.ntmps79
  go_wp2
  refine wp_loop_rounds 1 ?_
  rw [rounds_succ]
  go_wp2
  go_ret
  exact ⟨rfl, rfl⟩
end Go.Proofs.YtojpjaifhjigfaaGreatDoor
