/- conduitlaw.example and pick: DOC.md's configuration. -/
import Derived.Test.YtojpjaifhjigfaaGreatDoorConfig
import Derived.Laws.ResultCell
namespace Go.Proofs.YtojpjaifhjigfaaGreatDoor
open Go.RowKit Go.Maps
attribute [local go_sem] run_store_float

def exCfg : Cfg := { d := 1, q := 9, at' := 2, ba := 10, ca := 100, ti := 50, wi := 4, le := 2, th := 4604930618986332160, op := 200 }
def exTs : List (List UInt8 × Int) := [([97], 64), ([98], 64)]

theorem ex_ok : TenOk exTs := ⟨fun p hp => by
  simp only [exTs, List.mem_cons, List.not_mem_nil, or_false] at hp
  rcases hp with rfl | rfl <;> exact ⟨by simp [maxLen], by decide⟩, by simp [exTs, big]⟩

set_option maxRecDepth 100000 in
set_option maxHeartbeats 400000 in
theorem example_any (w : World) : Calls Tryz.prog 14 #[] w fun e w' => ∃ g, e = .returned (.tuple #[exCfg.val none, .slice (some ⟨g, 0, none⟩) 2 2]) ∧ TenAt w' (some ⟨g, 0, none⟩) exTs ∧ Below w.heap.size w w' := by
  go_enter Tryz.func14, Tryz.ntmps14
  go_wp2
  generalize hV : World.alloc w _ = V
  have hz : V.heap.size = w.heap.size + 1 := by rw [← hV]; simp
  have hk : Blk V w.heap.size (exCfg.cells none) 25 := by rw [← hV]; exact Blk.new w _ _
  have hbV : Below w.heap.size w V := by rw [← hV]; exact (Below.refl _ _).alloc (Nat.le_refl _) _
  clear hV
  refine bodyPost_ret (v := .tuple #[exCfg.val none, .slice (some ⟨w.heap.size + 1, 0, none⟩) 2 2]) ?_ rfl ⟨_, rfl, Or.inr ⟨_, 0, rfl, by simp; omega, ?_⟩, hbV.alloc (by omega) _⟩
  · rw [results_cell_tmp Tryz.results14]
    have hl := run_loadVar_mid (P := Tryz.prog) (V.alloc (Obj.cells #[Value.string { data := #[97] }, Value.int IntKind.i64 64, Value.string { data := #[98] }, Value.int IntKind.i64 64] 94)) w.heap.size 0 25 (exCfg.cells none).toList _ ((hk.alloc _).range 0 _ rfl) Tryz.underlying25 rfl infoConfig
    simp [asAddr, hl]
  · have hn := Blk.made hz #[Value.string { data := #[97] }, Value.int IntKind.i64 64, Value.string { data := #[98] }, Value.int IntKind.i64 64] 94
    intro k h
    have hk2 : k < 2 := h
    rw [hn.cell, hn.cell]
    match k, hk2 with
    | 0, _ => exact ⟨rfl, rfl⟩
    | 1, _ => exact ⟨rfl, rfl⟩

theorem ex_at (x : List UInt8) (c : Int) (h : At (DT exTs) x c) : okKV x c = true := by
  have h0 := h .nil
  have e : DT exTs = .map [(.string [97], .lit (.int .i64 64)), (.string [98], .lit (.int .i64 64))] := by kernel_rfl
  rw [e] at h0
  by_cases h1 : [97] = x
  · subst h1
    have : c = 64 := by simpa [DataW.atKey, Lit.sameKey] using h0.symm
    subst this; decide
  · by_cases h2 : [98] = x
    · subst h2
      have : c = 64 := by simpa [DataW.atKey, Lit.sameKey] using h0.symm
      subst this; decide
    · simp [DataW.atKey, Lit.sameKey, h1, h2] at h0

theorem ex_good : GoodC exCfg (DT exTs) := ⟨by decide, ⟨by decide, ex_at⟩, by kernel_rfl⟩

set_option maxHeartbeats 400000 in
theorem pick_0 (w : World) : Calls Tryz.prog 40 #[.int .i64 0, .int .i64 2] w fun e w' => e = .returned (.int .i64 0) ∧ w' = w := by
  go_enter Tryz.func40, Tryz.ntmps40
  go_wp2
  go_ret
  exact ⟨rfl, rfl⟩
set_option maxHeartbeats 400000 in
theorem pick_1 (w : World) : Calls Tryz.prog 40 #[.int .i64 1, .int .i64 2] w fun e w' => e = .returned (.int .i64 1) ∧ w' = w := by
  go_enter Tryz.func40, Tryz.ntmps40
  go_wp2
  go_ret
  exact ⟨rfl, rfl⟩
end Go.Proofs.YtojpjaifhjigfaaGreatDoor
