/- admit: a batch is taken, told in the log, and may go at once. -/
import Derived.Test.YtojpjaifhjigfaaGreatDoorPlay
import Derived.Test.YtojpjaifhjigfaaGreatDoorOpenNew
namespace Go.Proofs.YtojpjaifhjigfaaGreatDoor
open Go.RowKit Go.Maps

theorem agCells_set17 (bq bm : Nat) (tv dv nv rv rv' ov : Value) (M : Ag) (rt : List Ret) : (agCells bq bm tv dv nv rv ov M).setIfInBounds 17 rv' = agCells bq bm tv dv nv rv' ov { M with rt := rt } := by
  apply Array.ext'
  rw [Array.toList_setIfInBounds]
  rfl

theorem retried_step {wc w2 : World} {o : Obj} {L : Labs} {who g bq bm cn g2 cap2 : Nat} {tv dv nv rv ov : Value} {M : Ag} {r : Ret} (hA : AgAt wc L who g M bq bm cn tv dv nv rv ov)
    (ho2 : w2.ownsRow 0 189 2 (.slice (some ⟨g2, 0, none⟩) (M.rt.length + 1) cap2) (M.rt.length + 1) (M.rt.flatMap Ret.cells ++ r.cells)) (hg2 : (wc.alloc o).drew.grownBy w2 rv.ownBlock) (hat2 : rv.ownBlock = some g2 ∨ g2 = wc.heap.size + 1) :
    Turned wc L who g { M with rt := M.rt ++ [r] } (w2.setCell ⟨g, 17, none⟩ (.slice (some ⟨g2, 0, none⟩) (M.rt.length + 1) cap2)) := by
  have s1 : Step (fun l => l = some (who, .rt)) L wc L (wc.alloc o).drew := (Step.alloc L wc o).trans (Step.drew L _)
  have s0 : Step (fun _ => False) L wc L (wc.alloc o).drew := (Step.alloc L wc o).trans (Step.drew L _)
  have a2' := hA.rt.keep s0 (fun h => h)
  obtain ⟨hr2, hl2⟩ := a2'.appended ho2 (hat2.imp_right (fun e => by simp; omega))
  have s2 : Step (fun l => l = some (who, .rt)) L wc (lay L g2 (some (who, .rt))) w2 := s1.trans (Step.of_grown hg2 (fun j hj => a2'.2 j hj) hl2)
  have b1 := hA.blk.keep s2 (by simp)
  have s3 : Step (fun l => l = some (who, .ag)) (lay L g2 (some (who, .rt))) w2 (lay L g2 (some (who, .rt))) (w2.setCell ⟨g, 17, none⟩ (.slice (some ⟨g2, 0, none⟩) (M.rt.length + 1) cap2)) := Step.setCell _ _ _ _ b1.2
  refine ⟨lay L g2 (some (who, .rt)), ⟨bq, bm, cn, tv, dv, nv, .slice (some ⟨g2, 0, none⟩) (M.rt.length + 1) cap2, ov, ?_, ?_, ?_, ?_, ?_, ?_, ?_, ?_⟩, (s2.mono (fun l h => ⟨_, h⟩)).trans (s3.mono (fun l h => ⟨_, h⟩))⟩
  · refine ⟨?_, b1.2⟩
    rw [← agCells_set17 bq bm tv dv nv rv]
    exact b1.1.set 17 _
  · exact (hA.tk.keep s2 (by simp)).keep s3 (by simp)
  · exact (hA.qs.keep s2 (by simp) (by simp)).keep s3 (by simp) (by simp)
  · exact (hA.dd.keep s2 (by simp)).keep s3 (by simp)
  · exact (hA.nm.keep s2 (by simp)).keep s3 (by simp)
  · have := hr2.keep s3 (by simp)
    simpa [List.flatMap_append] using this
  · exact (hA.ol.keep s2 (by simp) (by simp) (by simp)).keep s3 (by simp) (by simp) (by simp)
  · exact (hA.cm.keep s2 (by simp)).keep s3 (by simp)

/-- An agent that has taken one more. -/
def Ag.taken (M : Ag) (b : Bat) : Ag := { M with bs := M.bs ++ [b.fresh], log := M.log ++ recBytes b, rt := M.rt ++ [⟨M.now, M.c.ba⟩] }

set_option maxRecDepth 100000 in
set_option maxHeartbeats 2000000 in
theorem admit_core (L : Labs) (who g : Nat) (M : Ag) (b : Bat) (w : World) (hLn : ∀ k, w.heap.size ≤ k → L k = none) (hA : AgentAt w L who g M) (hb : M.bs.length < 120) (hd : 0 ≤ b.dst ∧ b.dst < 4) (ht : b.ten.length ≤ 16) (hid : b.id.length ≤ 16) (hbo : b.body.length ≤ 63) (hlg : M.log.length ≤ 900000) (hrt : M.rt.length ≤ 120) :
    Calls Tryz.prog 66 #[.pointer (some ⟨g, 0, none⟩), batVal b] w fun e w' => e = .returned (.tuple #[]) ∧ Turned w L who g (M.taken b) w' := by
  have HRec : Hid (∀ (w1 : World) (ge : Nat), Below w.heap.size w w1 → w.heap.size ≤ ge → Blk w1 ge (evCells b).toArray 151 → Calls Tryz.prog 68 #[.pointer (some ⟨g, 0, none⟩), .slice (some ⟨ge, 0, none⟩) 1 1] w1 fun e w' => e = .returned (.tuple #[]) ∧ Turned w L who g { M with bs := M.bs ++ [b.fresh], log := M.log ++ recBytes b } w') := fun w1 ge hb1 hge hE => by
    refine (record_take L who g ge M b w1 (hA.keep (Step.of_below (p := fun _ => False) hb1) (fun _ h => h)) hE (by rw [hLn ge hge]; rintro ⟨q, hq⟩; cases hq) hb hd ht hid hbo hlg).mono ?_
    rintro e w' ⟨rfl, L', h1, h2⟩
    exact ⟨rfl, L', h1, (Step.of_below hb1).trans h2⟩
  have hgl : g < w.heap.size := by obtain ⟨bq, bm, cn, tv, dv, nv, rv, ov, h⟩ := hA; exact h.blk.1.lt
  obtain ⟨i1, hi1, hy0, hy1, hy2⟩ := info_parts infoRetry
  have hB2 := fun o1 o2 => ((Below.refl w.heap.size w).alloc (Nat.le_refl _) o1).alloc (show w.heap.size ≤ _ by simp) o2
  have HE := fun o1 => hide (Blk.made (V := w.alloc o1) (n := w.heap.size + 1) (by simp) (evCells b).toArray 151)
  clear hA
  unfold batVal
  go_enter Tryz.func66, Tryz.ntmps66
  go_upto_region 1 with fail
  go_cut [] (fun wx => Turned w L who g { M with bs := M.bs ++ [b.fresh], log := M.log ++ recBytes b } wx)
  case first =>
    go_region_with ((go_at_call 68; refine (HRec.out _ (w.heap.size + 1) (by first | exact hB2 _ _ | exact (hB2 _ _).drew) (by omega) (by exact (HE _).out)).mono ?_; rintro e w2 ⟨rfl, hT⟩))
    all_goals (go_wp2_with fail; go_meet; exact hT)
  case rest =>
  obtain ⟨L1, ⟨bq, bm, cn, tv, dv, nv, rv, ov, hA1⟩, s1⟩ := hcut
  obtain ⟨ra, rc, rfl, _⟩ := hA1.rt.shape
  have t16 : wc.cell? ⟨g, 16, none⟩ = some (.int .i64 M.now) := hA1.blk.1.cell 16
  have t8 : wc.cell? ⟨g, 8, none⟩ = some (.int .i64 M.c.ba) := hA1.blk.1.cell 8
  have t17 : wc.cell? ⟨g, 17, none⟩ = some (.slice ra M.rt.length rc) := hA1.blk.1.cell 17
  have HA1 := hide hA1
  have HS1 := hide s1
  have hgc : g < wc.heap.size := hA1.blk.1.lt
  clear hA1 s1
  go_wp2_with fail
  go_region_law (refine step_append_lies _ (by rfl) _ _ _ (by rfl) 0 189 i1 _ 2 16 Tryz.underlying135 hi1 hy0 hy1 hy2 rfl (by omega) (.slice ra M.rt.length rc) M.rt.length (M.rt.flatMap Ret.cells) (by rfl) ((HA1.out.rt.1.alloc _).drew) ⟨wc.heap.size, 0, none⟩ 1 1 (Ret.cells ⟨M.now, M.c.ba⟩) (by rfl) (by rfl) (World.news_of_block (cs := (Ret.cells ⟨M.now, M.c.ba⟩).toArray) (t := 189) (fr := (0, 0)) (heap_alloc_new wc _)) (by simp [Value.oneCell', Ret.cells]) (by omega) (by unfold maxLen; omega) (by omega) (by omega) (wc.heap.size + 1) (by simp) ?_; intro g2 cap2 w2 hown2 hg2 hat2 hlt2; have hBk := Blk.grown (w := World.drew (World.alloc wc _)) (HA1.out.blk.1.alloc _) hg2 (fun e => by have := HA1.out.rt.2 g e.symm; rw [HA1.out.blk.2] at this; simp at this); have z0 := hBk.cell 17; have y0 := hBk.frozen 17; simp [agCells] at z0; have HU := hide (retried_step HA1.out hown2 hg2 hat2); clear hBk hown2 hg2 hat2)
  all_goals
    go_wp2_with fail
    first | go_end0 | refine bodyPost_ret (results_none rfl _ _ _) rfl ?_
    obtain ⟨L2, hA2, hS2⟩ := HU.out
    exact ⟨rfl, L2, hA2, HS1.out.trans hS2⟩

theorem admit_any (L : Labs) (who g : Nat) (M : Ag) (b : Bat) (w : World) (hA : AgentAt w L who g M) (hb : M.bs.length < 120) (hd : 0 ≤ b.dst ∧ b.dst < 4) (ht : b.ten.length ≤ 16) (hid : b.id.length ≤ 16) (hbo : b.body.length ≤ 63) (hlg : M.log.length ≤ 900000) (hrt : M.rt.length ≤ 120) :
    Calls Tryz.prog 66 #[.pointer (some ⟨g, 0, none⟩), batVal b] w fun e w' => e = .returned (.tuple #[]) ∧ Turned w L who g (M.taken b) w' := by
  refine (admit_core (clip L w.heap.size) who g M b w (fun k hk => clip_none L hk) (hA.keep (Step.clipped (p := fun _ => False) L w) (fun _ h => h)) hb hd ht hid hbo hlg hrt).mono ?_
  rintro e w' ⟨rfl, L', h1, h2⟩
  exact ⟨rfl, L', h1, (Step.clipped L w).trans h2⟩
end Go.Proofs.YtojpjaifhjigfaaGreatDoor
