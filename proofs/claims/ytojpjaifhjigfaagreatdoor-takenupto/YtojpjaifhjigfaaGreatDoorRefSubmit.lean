/- Submit: the document's side. -/
import Derived.Test.YtojpjaifhjigfaaGreatDoorSubmit
import Derived.Test.YtojpjaifhjigfaaGreatDoorRefAsk
import Derived.BigQuiet
namespace Go.Proofs.YtojpjaifhjigfaaGreatDoor
open Go.RowKit Go.Maps

/-- Why the document refuses a batch. -/
def Rf.refusal (R : Rf) (b : Bat) : Nat :=
  if ¬ (0 ≤ b.dst ∧ b.dst < R.c.d) then 3 else if findN R.ns b.ten < 0 then 4 else if b.id.length < 1 ∨ 16 < b.id.length then 5 else if 63 < b.body.length then 6 else if 0 ≤ findId R.bs b.id then 7 else if 120 ≤ R.rs.length then 8 else if R.c.q ≤ cntP R.bs b.ten then 9 else 0
def Rf.taken (R : Rf) (b : Bat) : Rf := { R with rs := R.rs ++ [⟨b.fresh, R.c.ba, 0⟩] }
def Rf.submitted (R : Rf) (b : Bat) : Rf := if R.refusal b = 0 then R.taken b else R
def TurnedR (w : World) (L : Labs) (who g : Nat) (R : Rf) (w' : World) : Prop := ∃ L', RefAt w' L' who g R ∧ Step (ofP who) L w L' w'

theorem infoRefBatch3 : (Tryz.prog.info? 112).map (fun i => (i.zero, i.size, i.bytes)) = some (some (.agg #[.int .i64 0, .string ⟨#[]⟩, .string ⟨#[]⟩, .string ⟨#[]⟩, .int .i64 0, .int .i64 0, .int .i64 0, .int .i64 0]), 8, 88) := by kernel_rfl

theorem refCells_set13 (c : Cfg) (m : Option Nat) (nv qv bv bv' dv lv : Value) (t : Int) : (refCells c m nv qv bv dv lv t).setIfInBounds 13 bv' = refCells c m nv qv bv' dv lv t := by
  apply Array.ext'
  rw [Array.toList_setIfInBounds]
  rfl

theorem rtaken_step {wc w2 : World} {o : Obj} {L : Labs} {who g g2 cap2 lk : Nat} {nv qv bv dv : Value} {la : Option Addr} {R : Rf} {r : RBat} (hA : RfAt wc L who g R nv qv bv dv la lk)
    (ho2 : w2.ownsRow 0 112 8 (.slice (some ⟨g2, 0, none⟩) (R.rs.length + 1) cap2) (R.rs.length + 1) (R.rs.flatMap RBat.cells ++ r.cells)) (hg2 : (wc.alloc o).drew.grownBy w2 bv.ownBlock) (hat2 : bv.ownBlock = some g2 ∨ g2 = wc.heap.size + 1) :
    TurnedR wc L who g { R with rs := R.rs ++ [r] } (w2.setCell ⟨g, 13, none⟩ (.slice (some ⟨g2, 0, none⟩) (R.rs.length + 1) cap2)) := by
  have s1 : Step (fun l => l = some (who, .tk)) L wc L (wc.alloc o).drew := (Step.alloc L wc o).trans (Step.drew L _)
  have s0 : Step (fun _ => False) L wc L (wc.alloc o).drew := (Step.alloc L wc o).trans (Step.drew L _)
  have a2' := hA.tk.keep s0 (fun h => h)
  obtain ⟨hr2, hl2⟩ := a2'.appended ho2 (hat2.imp_right (fun e => by simp; omega))
  have s2 : Step (fun l => l = some (who, .tk)) L wc (lay L g2 (some (who, .tk))) w2 := s1.trans (Step.of_grown hg2 (fun j hj => a2'.2 j hj) hl2)
  have b1 := hA.blk.keep s2 (by simp)
  have s3 : Step (fun l => l = some (who, .ag)) (lay L g2 (some (who, .tk))) w2 (lay L g2 (some (who, .tk))) (w2.setCell ⟨g, 13, none⟩ (.slice (some ⟨g2, 0, none⟩) (R.rs.length + 1) cap2)) := Step.setCell _ _ _ _ b1.2
  refine ⟨lay L g2 (some (who, .tk)), ⟨nv, qv, .slice (some ⟨g2, 0, none⟩) (R.rs.length + 1) cap2, dv, la, lk, ?_, ?_, ?_, ?_⟩, (s2.mono (fun l h => ⟨_, h⟩)).trans (s3.mono (fun l h => ⟨_, h⟩))⟩
  · refine ⟨?_, b1.2⟩
    rw [← refCells_set13 R.c R.m nv qv bv]
    exact b1.1.set 13 _
  · exact (hA.nm.keep s2 (by simp)).keep s3 (by simp)
  · have := hr2.keep s3 (by simp)
    simpa [List.flatMap_append] using this
  · exact (hA.dd.keep s2 (by simp)).keep s3 (by simp)

theorem below_drewN {B : Nat} {a w : World} (h : Below B a w) (n : Nat) : Below B a (w.drewN n) := ⟨h.os, h.tape, h.output, h.size, h.block⟩
theorem ref_no {R : Rf} {b : Bat} {n : Nat} {w w' : World} {L : Labs} {who g : Nat} (hn : R.refusal b = n) (h0 : n ≠ 0) (hB : Below w.heap.size w w') (hR : RefAt w' L who g R) : Ending.returned (.int .i64 (n : Int)) = Ending.returned (.int .i64 (R.refusal b)) ∧ TurnedR w L who g (R.submitted b) w' := by
  have e : R.submitted b = R := if_neg (by rw [hn]; exact h0)
  rw [e, hn]
  exact ⟨rfl, L, hR, Step.of_below hB⟩

set_option maxRecDepth 100000 in
set_option maxHeartbeats 4000000 in
theorem refSubmit_any (L : Labs) (who g : Nat) (R : Rf) (b : Bat) (w : World) (h : RefAt w L who g R) (hb : R.rs.length ≤ 120) (hn : R.ns.length ≤ 120) (hd0 : 0 ≤ R.c.d) :
    Calls Tryz.prog 48 #[.pointer (some ⟨g, 0, none⟩), batVal b] w fun e w' => e = .returned (.int .i64 (R.refusal b)) ∧ TurnedR w L who g (R.submitted b) w' := by
  have hB0 := fun o => (Below.refl w.heap.size w).alloc (Nat.le_refl _) o
  have HK : Hid (∀ w1, Below w.heap.size w w1 → RefAt w1 L who g R) := fun w1 h1 => h.keep (Step.of_below (p := fun _ => False) (L := L) h1) (fun _ h => h)
  obtain ⟨nv, qv, bv, dv, la, lk, h⟩ := h
  obtain ⟨ta, tc, rfl, _⟩ := h.tk.shape
  have c13 : w.cell? ⟨g, 13, none⟩ = some (.slice ta R.rs.length tc) := h.blk.1.cell 13
  have c15 : w.cell? ⟨g, 15, none⟩ = some (.slice la R.c.d.toNat lk) := h.blk.1.cell 15
  have c2 : w.cell? ⟨g, 2, none⟩ = some (.int .i64 R.c.q) := h.blk.1.cell 2
  have c4 : w.cell? ⟨g, 4, none⟩ = some (.int .i64 R.c.ba) := h.blk.1.cell 4
  have hgl := h.blk.1.lt
  have HH := hide h
  have hB00 := hide hB0
  have htn : ((R.c.d.toNat : Nat) : Int) = R.c.d := Int.toNat_of_nonneg hd0
  generalize hdn : R.c.d.toNat = dn at *
  unfold batVal
  clear h hB0
  go_enter Tryz.func48, Tryz.ntmps48
  go_wp2_with fail
  refine (refTenant_any L who g R b.ten _ (HK.out _ (hB00.out _)) hn).mono ?_
  rintro e w' ⟨rfl, rfl⟩
  generalize hft : findN R.ns b.ten = ft
  have Hft := hide hft
  clear hft
  go_wp2_with fail
  refine (refPlace_any L who g R b.id _ (HK.out _ (hB00.out _)) hb).mono ?_
  rintro e w' ⟨rfl, rfl⟩
  generalize hfi : findId R.bs b.id = fi
  have Hfi := hide hfi
  clear hfi
  go_wp2_with fail
  refine (refPending_any L who g R b.ten _ (HK.out _ (hB00.out _)) hb).mono ?_
  rintro e w' ⟨rfl, rfl⟩
  generalize hct : cntP R.bs b.ten = ct
  have Hct := hide hct
  clear hct
  have HU := hide (fun n (hn : R.refusal b = n) (h0 : n ≠ 0) nq => ref_no (w' := (w.alloc (.cells #[.int .i64 b.dst, encStr b.ten, encStr b.id, encStr b.body] 45)).drewN nq) (L := L) (who := who) (g := g) hn h0 (below_drewN (hB00.out _) nq) (HK.out _ (below_drewN (hB00.out _) nq)))
  by_cases h1 : b.dst < 0
  · go_wp2_with fail
    go_quiet (fail)
    go_wp2_with fail
    go_ret
    exact HU.out 3 (by unfold Rf.refusal; rw [if_pos (by omega)]) (by decide) _
  have h1d : decide (b.dst < 0) = false := by simpa using h1
  by_cases h2 : (dn : Int) ≤ b.dst
  · go_wp2_with fail
    go_quiet (fail)
    go_wp2_with fail
    go_ret
    exact HU.out 3 (by unfold Rf.refusal; rw [if_pos (by omega)]) (by decide) _
  have h2d : decide ((dn : Int) ≤ b.dst) = false := by simpa using h2
  have hdst : 0 ≤ b.dst ∧ b.dst < R.c.d := by omega
  have Hdst := hide hdst
  clear hdst
  go_wp2_with fail
  go_quiet (fail)
  by_cases h3 : ft < 0
  · go_wp2_with fail
    go_ret
    exact HU.out 4 (by unfold Rf.refusal; rw [Hft.out, Hfi.out, Hct.out]; have := Hdst.out; (repeat' split) <;> first | rfl | omega) (by decide) _
  by_cases h4 : (b.id.length : Int) < 1
  · go_wp2_with fail
    go_ret
    exact HU.out 5 (by unfold Rf.refusal; rw [Hft.out, Hfi.out, Hct.out]; have := Hdst.out; (repeat' split) <;> first | rfl | omega) (by decide) _
  by_cases h5 : (16 : Int) < (b.id.length : Int)
  · go_wp2_with fail
    go_ret
    exact HU.out 5 (by unfold Rf.refusal; rw [Hft.out, Hfi.out, Hct.out]; have := Hdst.out; (repeat' split) <;> first | rfl | omega) (by decide) _
  by_cases h6 : (63 : Int) < (b.body.length : Int)
  · go_wp2_with fail
    go_ret
    exact HU.out 6 (by unfold Rf.refusal; rw [Hft.out, Hfi.out, Hct.out]; have := Hdst.out; (repeat' split) <;> first | rfl | omega) (by decide) _
  by_cases h7 : 0 ≤ fi
  · go_wp2_with fail
    go_ret
    exact HU.out 7 (by unfold Rf.refusal; rw [Hft.out, Hfi.out, Hct.out]; have := Hdst.out; (repeat' split) <;> first | rfl | omega) (by decide) _
  by_cases h8 : (120 : Int) ≤ (R.rs.length : Int)
  · go_wp2_with fail
    go_ret
    exact HU.out 8 (by unfold Rf.refusal; rw [Hft.out, Hfi.out, Hct.out]; have := Hdst.out; (repeat' split) <;> first | rfl | omega) (by decide) _
  by_cases h9 : R.c.q ≤ (ct : Int)
  · go_wp2_with fail
    go_ret
    exact HU.out 9 (by unfold Rf.refusal; rw [Hft.out, Hfi.out, Hct.out]; have := Hdst.out; (repeat' split) <;> first | rfl | omega) (by decide) _
  have HE : Hid (R.refusal b = 0) := (by unfold Rf.refusal; rw [Hft.out, Hfi.out, Hct.out]; have := Hdst.out; (repeat' split) <;> first | rfl | omega)
  go_wp2_with fail
  generalize hV : World.drewN (World.alloc w _) _ = V
  have hBV : Below w.heap.size w V := by rw [← hV]; exact below_drewN (hB00.out _) _
  have hNV : Blk V w.heap.size #[.int .i64 b.dst, encStr b.ten, encStr b.id, encStr b.body] 45 := by rw [← hV]; exact (Blk.new w _ _).drewN _
  have hAV : RfAt V L who g R nv qv (.slice ta R.rs.length tc) dv la lk := ⟨HH.out.blk.keep (Step.of_below (p := fun _ => False) hBV) (fun h => h), HH.out.nm.keep (Step.of_below (p := fun _ => False) hBV) (fun h => h), HH.out.tk.keep (Step.of_below (p := fun _ => False) hBV) (fun h => h), HH.out.dd.keep (Step.of_below (p := fun _ => False) hBV) (fun h => h)⟩
  have d0 : V.cell? ⟨w.heap.size, 0, none⟩ = some (.int .i64 b.dst) := hNV.cell 0
  have d1 : V.cell? ⟨w.heap.size, 1, none⟩ = some (encStr b.ten) := hNV.cell 1
  have d2 : V.cell? ⟨w.heap.size, 2, none⟩ = some (encStr b.id) := hNV.cell 2
  have d3 : V.cell? ⟨w.heap.size, 3, none⟩ = some (encStr b.body) := hNV.cell 3
  have t13 : V.cell? ⟨g, 13, none⟩ = some (.slice ta R.rs.length tc) := hAV.blk.1.cell 13
  have t4 : V.cell? ⟨g, 4, none⟩ = some (.int .i64 R.c.ba) := hAV.blk.1.cell 4
  have HBV := hide hBV
  have HAV := hide hAV
  have hgc : g < V.heap.size := hAV.blk.1.lt
  have hnl : w.heap.size < V.heap.size := hNV.lt
  obtain ⟨i1, hi1, hy0, hy1, hy2⟩ := info_parts infoRefBatch3
  clear hV hBV hNV hAV c13 c15 c2 c4
  go_region_law (refine step_append_lies _ (by rfl) _ _ _ (by rfl) 0 112 i1 _ 8 88 Tryz.underlying103 hi1 hy0 hy1 hy2 rfl (by omega) (.slice ta R.rs.length tc) R.rs.length (R.rs.flatMap RBat.cells) (by rfl) ((HAV.out.tk.1.alloc _).drew) ⟨V.heap.size, 0, none⟩ 1 1 (RBat.cells ⟨b.fresh, R.c.ba, 0⟩) (by rfl) (by rfl) (World.news_of_block (cs := (RBat.cells ⟨b.fresh, R.c.ba, 0⟩).toArray) (t := 112) (fr := (0, 0)) (heap_alloc_new V _)) (by simp [Value.oneCell', RBat.cells, Bat.cells, encStr]) (by omega) (by unfold maxLen; omega) (by omega) (by omega) (V.heap.size + 1) (by simp) ?_; intro g2 cap2 w2 hown2 hg2 hat2 hlt2; have hBk := Blk.grown (w := World.drew (World.alloc V _)) (HAV.out.blk.1.alloc _) hg2 (fun e => by have := HAV.out.tk.2 g e.symm; rw [HAV.out.blk.2] at this; simp at this); have z0 := hBk.cell 13; have y0 := hBk.frozen 13; simp [refCells] at z0; have HU := hide (rtaken_step HAV.out hown2 hg2 hat2); clear hBk hown2 hg2 hat2)
  all_goals
    go_wp2_with fail
    go_ret
    obtain ⟨L2, hA2, hS2⟩ := HU.out
    have e : R.submitted b = R.taken b := if_pos HE.out
    rw [e, HE.out]
    exact ⟨rfl, L2, hA2, (Step.of_below HBV.out).trans hS2⟩
end Go.Proofs.YtojpjaifhjigfaaGreatDoor
