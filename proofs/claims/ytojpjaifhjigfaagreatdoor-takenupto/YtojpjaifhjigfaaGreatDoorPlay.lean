/- play, record: one event happens, and is told in the log. -/
import Derived.Test.YtojpjaifhjigfaaGreatDoorTake
namespace Go.Proofs.YtojpjaifhjigfaaGreatDoor
open Go.RowKit Go.Maps

/-- What one agent's step is: it turned, and nobody else did. -/
def Turned (w : World) (L : Labs) (who g : Nat) (M : Ag) (w' : World) : Prop := ∃ L', AgentAt w' L' who g M ∧ Step (ofP who) L w L' w'

set_option maxRecDepth 100000 in
set_option maxHeartbeats 1000000 in
theorem play_take (L : Labs) (who g : Nat) (M : Ag) (b : Bat) (w : World) (hA : AgentAt w L who g M) (hb : M.bs.length < 120) (hd : 0 ≤ b.dst ∧ b.dst < 4) (ht : b.ten.length ≤ 16) (hid : b.id.length ≤ 16) (hbo : b.body.length ≤ 63) :
    Calls Tryz.prog 109 #[.pointer (some ⟨g, 0, none⟩), evVal b] w fun e w' => e = .returned (.tuple #[]) ∧ Turned w L who g { M with bs := M.bs ++ [b.fresh] } w' := by
  have HA : Hid (∀ w1 : World, Below w.heap.size w w1 → Calls Tryz.prog 136 #[.pointer (some ⟨g, 0, none⟩), evVal b] w1 fun e w' => e = .returned (.tuple #[]) ∧ Turned w L who g { M with bs := M.bs ++ [b.fresh] } w') := fun w1 hb1 => by
    refine (take_any L who g M b w1 (hA.keep (Step.of_below (p := fun _ => False) hb1) (fun _ h => h)) hb hd ht hid hbo).mono ?_
    rintro e w' ⟨rfl, L', h1, h2⟩
    exact ⟨rfl, L', h1, (Step.of_below hb1).trans h2⟩
  clear hA
  unfold evVal at *
  go_enter Tryz.func109, Tryz.ntmps109
  go_wp2_with fail
  have hB2 := fun o1 o2 => ((Below.refl w.heap.size w).alloc (Nat.le_refl _) o1).alloc (show w.heap.size ≤ _ by simp) o2
  go_region_with (first | (go_at_call 136; refine (HA.out _ (by first | exact hB2 _ _ | exact (hB2 _ _).drew)).mono ?_; rintro e w2 ⟨rfl, hT⟩) | fail)
  all_goals
    go_wp2_with fail
    first | go_end0 | refine bodyPost_ret (results_none rfl _ _ _) rfl ?_
    exact ⟨rfl, hT⟩

theorem agCells_set3 (bq bm : Nat) (tv dv nv rv ov : Value) (M : Ag) (l : List UInt8) : (agCells bq bm tv dv nv rv ov M).setIfInBounds 3 (encStr l) = agCells bq bm tv dv nv rv ov { M with log := l } := by
  apply Array.ext'
  rw [Array.toList_setIfInBounds]
  rfl
/-- The log grows: a cell of the agent. -/
theorem logged_step {w : World} {L : Labs} {who g : Nat} {M : Ag} (h : AgentAt w L who g M) (l : List UInt8) : Turned w L who g { M with log := l } (w.setCell ⟨g, 3, none⟩ (encStr l)) := by
  obtain ⟨bq, bm, cn, tv, dv, nv, rv, ov, h⟩ := h
  have s : Step (fun q => q = some (who, .ag)) L w L (w.setCell ⟨g, 3, none⟩ (encStr l)) := Step.setCell _ _ _ _ h.blk.2
  refine ⟨L, ⟨bq, bm, cn, tv, dv, nv, rv, ov, ⟨?_, h.blk.2⟩, h.tk.keep s (by simp), h.qs.keep s (by simp) (by simp), h.dd.keep s (by simp), h.nm.keep s (by simp), h.rt.keep s (by simp), h.ol.keep s (by simp) (by simp) (by simp), h.cm.keep s (by simp)⟩, s.mono (fun l h => ⟨_, h⟩)⟩
  rw [← agCells_set3]
  exact h.blk.1.set 3 _
theorem Turned.keep {w w1 w' : World} {L : Labs} {who g : Nat} {M M' : Ag} (h : ∃ L', AgentAt w1 L' who g M ∧ Step (ofP who) L w L' w1) (k : ∀ L', AgentAt w1 L' who g M → Turned w1 L' who g M' w') : Turned w L who g M' w' := by
  obtain ⟨L1, h1, s1⟩ := h
  obtain ⟨L2, h2, s2⟩ := k L1 h1
  exact ⟨L2, h2, s1.trans s2⟩

theorem agent_frozen {w : World} {L : Labs} {who g : Nat} {M : Ag} (h : AgentAt w L who g M) (o : Nat) : w.frozen? ⟨g, o, none⟩ = false := by
  obtain ⟨bq, bm, cn, tv, dv, nv, rv, ov, h⟩ := h
  exact h.blk.1.frozen o
theorem agent_log {w : World} {L : Labs} {who g : Nat} {M : Ag} (h : AgentAt w L who g M) : w.cell? ⟨g, 3, none⟩ = some (encStr M.log) := by
  obtain ⟨bq, bm, cn, tv, dv, nv, rv, ov, h⟩ := h
  exact h.blk.1.cell 3

theorem run_concat (a b : List UInt8) (w : World) (h : a.length + b.length ≤ 1000000) : (Op.stringOp .add ⟨a.toArray⟩ ⟨b.toArray⟩).run Tryz.prog w = .ok (encStr (a ++ b)) w := by
  have hn : ¬ (((ByteArray.mk a.toArray).size + (ByteArray.mk b.toArray).size : Nat) : Int) > IntKind.i64.max := by
    have h2 : IntKind.i64.max = 9223372036854775807 := rfl
    rw [h2]
    simp only [ByteArray.size, List.size_toArray]
    omega
  have e : ByteArray.mk a.toArray ++ ByteArray.mk b.toArray = ByteArray.mk (a ++ b).toArray := by
    apply ByteArray.ext
    simp
  unfold Op.stringOp
  simp only [if_neg hn, e]
  rfl

set_option maxRecDepth 100000 in
set_option maxHeartbeats 1000000 in
theorem record_take (L : Labs) (who g ge : Nat) (M : Ag) (b : Bat) (w : World) (hA : AgentAt w L who g M) (he : Blk w ge (evCells b).toArray 151) (hge : ¬ ofP who (L ge)) (hb : M.bs.length < 120) (hd : 0 ≤ b.dst ∧ b.dst < 4) (ht : b.ten.length ≤ 16) (hid : b.id.length ≤ 16) (hbo : b.body.length ≤ 63) (hlg : M.log.length ≤ 900000) :
    Calls Tryz.prog 68 #[.pointer (some ⟨g, 0, none⟩), .slice (some ⟨ge, 0, none⟩) 1 1] w fun e w' => e = .returned (.tuple #[]) ∧ Turned w L who g { M with bs := M.bs ++ [b.fresh], log := M.log ++ recBytes b } w' := by
  have HP := hide (fun w1 (h1 : Below w.heap.size w w1) => play_take L who g M b w1 (hA.keep (Step.of_below (p := fun _ => False) h1) (fun _ h => h)) hb hd ht hid hbo)
  have HE := hide he
  unfold evVal at HP
  clear hA
  have hrl : (recBytes b).length ≤ 103 := by have := evBytes_le b ht hid hbo; simp [recBytes]; omega
  have hcat := fun w => run_concat M.log (recBytes b) w (by omega)
  clear hrl
  go_enter Tryz.func68, Tryz.ntmps68
  go_wp2_with fail
  refine wp_loop_rounds 2 ?_
  rw [rounds_succ]
  go_wp2_with (first
    | (refine wpList_load_mid rfl 151 _ rfl ge 0 rfl [.int .i64 0, .int .i64 b.dst, encStr b.ten, encStr b.id, encStr b.body, .int .i64 0, .int .i64 0] _ (HE.out.range 0 _ rfl) Tryz.underlying151 rfl infoEvent ?_)
    | fail)
  refine (HP.out _ ((Below.refl w.heap.size w).alloc (Nat.le_refl _) _)).mono ?_
  rintro e w2 ⟨rfl, L1, hA2, s2⟩
  have HS2 : Hid (Step (ofP who) L w L1 w2) := (Step.alloc L w _).trans s2
  have hlt2 := he.lt
  have hE2 : Blk w2 ge (evCells b).toArray 151 := by
    unfold Blk
    rw [HS2.out.block ge hlt2 hge]
    exact HE.out
  have hg2 : w2.cell? ⟨g, 3, none⟩ = some (encStr M.log) := by obtain ⟨bq, bm, cn, tv, dv, nv, rv, ov, h⟩ := hA2; exact h.blk.1.cell 3
  have hgl : g < w2.heap.size := World.block_lt_of_cell? w2 _ hg2
  have HA2 := hide hA2
  have HE2 := hide hE2
  clear hA2 hE2 s2 he hlt2
  go_wp2_with fail
  rw [rounds_succ]
  go_wp2_with fail
  go_region_with ((go_at_call 110; refine (written_take ge b _ (by exact HE2.out) hd ht hid hbo).mono ?_; rintro e w3 ⟨rfl, hb3'⟩; have hb3 : Below w2.heap.size w2 w3 := ((Below.refl w2.heap.size w2).drew).trans hb3'; have hA3 := HA2.out.keep (Step.of_below (p := fun _ => False) (L := L1) hb3) (fun _ h => h); have HB3 := hide hb3; have f3 : w3.frozen? ⟨g, 3, none⟩ = false := agent_frozen hA3 3; have hc3 : w3.cell? ⟨g, 3, none⟩ = some (encStr M.log) := (agent_log hA3 :); have HA3 := hide hA3; clear hA3 hb3 hb3'))
  all_goals
    go_wp2_with fail
    first | go_end0 | refine bodyPost_ret (results_none rfl _ _ _) rfl ?_
    obtain ⟨L4, hA4, hS4⟩ := logged_step HA3.out (M.log ++ recBytes b)
    exact ⟨rfl, L4, hA4, (HS2.out.trans (Step.of_below HB3.out)).trans hS4⟩
end Go.Proofs.YtojpjaifhjigfaaGreatDoor
