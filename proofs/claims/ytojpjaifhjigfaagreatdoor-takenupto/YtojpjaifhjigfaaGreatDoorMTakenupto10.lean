/- Steps of the proof (several texts in one): RefSubmit, LawPick, LawStep, LawStep2. -/
import Derived.Test.YtojpjaifhjigfaaGreatDoorMTakenupto09
import Derived.Test.YtojpjaifhjigfaaGreatDoorMTakenupto05
import Derived.BigQuiet
import Derived.Test.YtojpjaifhjigfaaGreatDoorMTakenupto07
import Derived.Test.YtojpjaifhjigfaaGreatDoorMTakenupto06

/- Submit: the document's side. -/
namespace Go.Proofs.YtojpjaifhjigfaaGreatDoor
open Go.RowKit Go.Maps

/-- Why the document refuses a batch. -/
def Rf.refusal (R : Rf) (b : Bat) : Nat :=
  if ¬ (0 ≤ b.dst ∧ b.dst < R.c.d) then 3 else if findN R.ns b.ten < 0 then 4 else if b.id.length < 1 ∨ 16 < b.id.length then 5 else if 63 < b.body.length then 6 else if 0 ≤ findId R.bs b.id then 7 else if 120 ≤ R.rs.length then 8 else if R.c.q ≤ cntP R.bs b.ten then 9 else 0
def Rf.taken (R : Rf) (b : Bat) : Rf := { R with rs := R.rs ++ [⟨b.fresh, R.c.ba, 0⟩] }
def Rf.submitted (R : Rf) (b : Bat) : Rf := if R.refusal b = 0 then R.taken b else R
def TurnedR (w : World) (L : Labs) (who g : Nat) (R : Rf) (w' : World) : Prop := ∃ L', RefAt w' L' who g R ∧ Step (ofP who) L w L' w'

theorem infoRefBatch3 : (Tryz.prog.info? 112).map (fun i => (i.zero, i.size, i.bytes)) = some (some (.agg #[.int .i64 0, .string ⟨#[]⟩, .string ⟨#[]⟩, .string ⟨#[]⟩, .int .i64 0, .int .i64 0, .int .i64 0, .int .i64 0]), 8, 88) := by kernel_rfl

theorem refCells_set13 (c : Cfg) (m : Option Nat) (nv qv bv bv' dv lv : Value) (t : Int) : (refCells c m nv qv bv dv lv t).setIfInBounds 13 bv' = refCells c m nv qv bv' dv lv t := by
  apply Array.ext'
  rw [Array.toList_setIfInBounds]
  rfl

theorem rtaken_step {wc w2 : World} {o : Obj} {L : Labs} {who g g2 cap2 lk : Nat} {nv qv bv dv : Value} {la : Option Addr} {R : Rf} {r : RBat} (hA : RfAt wc L who g R nv qv bv dv la lk)
    (ho2 : w2.ownsRow 0 112 8 (.slice (some ⟨g2, 0, none⟩) (R.rs.length + 1) cap2) (R.rs.length + 1) (R.rs.flatMap RBat.cells ++ r.cells)) (hg2 : (wc.alloc o).drew.grownBy w2 bv.ownBlock) (hat2 : bv.ownBlock = some g2 ∨ g2 = wc.heap.size + 1) :
    TurnedR wc L who g { R with rs := R.rs ++ [r] } (w2.setCell ⟨g, 13, none⟩ (.slice (some ⟨g2, 0, none⟩) (R.rs.length + 1) cap2)) := by
  have s1 : Step (fun l => l = some (who, .tk)) L wc L (wc.alloc o).drew := (Step.alloc L wc o).trans (Step.drew L _)
  have s0 : Step (fun _ => False) L wc L (wc.alloc o).drew := (Step.alloc L wc o).trans (Step.drew L _)
  have a2' := hA.tk.keep s0 (fun h => h)
  obtain ⟨hr2, hl2⟩ := a2'.appended ho2 (hat2.imp_right (fun e => by simp; omega))
  have s2 : Step (fun l => l = some (who, .tk)) L wc (lay L g2 (some (who, .tk))) w2 := s1.trans (Step.of_grown hg2 (fun j hj => a2'.2 j hj) hl2)
  have b1 := hA.blk.keep s2 (by simp)
  have s3 : Step (fun l => l = some (who, .ag)) (lay L g2 (some (who, .tk))) w2 (lay L g2 (some (who, .tk))) (w2.setCell ⟨g, 13, none⟩ (.slice (some ⟨g2, 0, none⟩) (R.rs.length + 1) cap2)) := Step.setCell _ _ _ _ b1.2
  refine ⟨lay L g2 (some (who, .tk)), ⟨nv, qv, .slice (some ⟨g2, 0, none⟩) (R.rs.length + 1) cap2, dv, la, lk, ?_, ?_, ?_, ?_⟩, (s2.mono (fun l h => ⟨_, h⟩)).trans (s3.mono (fun l h => ⟨_, h⟩))⟩
  · refine ⟨?_, b1.2⟩
    rw [← refCells_set13 R.c R.m nv qv bv]
    exact b1.1.set 13 _
  · exact (hA.nm.keep s2 (by simp)).keep s3 (by simp)
  · have := hr2.keep s3 (by simp)
    simpa [List.flatMap_append] using this
  · exact (hA.dd.keep s2 (by simp)).keep s3 (by simp)

theorem below_drewN {B : Nat} {a w : World} (h : Below B a w) (n : Nat) : Below B a (w.drewN n) := ⟨h.os, h.tape, h.output, h.size, h.block⟩
theorem ref_no {R : Rf} {b : Bat} {n : Nat} {w w' : World} {L : Labs} {who g : Nat} (hn : R.refusal b = n) (h0 : n ≠ 0) (hB : Below w.heap.size w w') (hR : RefAt w' L who g R) : Ending.returned (.int .i64 (n : Int)) = Ending.returned (.int .i64 (R.refusal b)) ∧ TurnedR w L who g (R.submitted b) w' := by
  have e : R.submitted b = R := if_neg (by rw [hn]; exact h0)
  rw [e, hn]
  exact ⟨rfl, L, hR, Step.of_below hB⟩

set_option maxRecDepth 100000 in
set_option maxHeartbeats 4000000 in
theorem refSubmit_any (L : Labs) (who g : Nat) (R : Rf) (b : Bat) (w : World) (h : RefAt w L who g R) (hb : R.rs.length ≤ 120) (hn : R.ns.length ≤ 120) (hd0 : 0 ≤ R.c.d) :
    Calls Tryz.prog 48 #[.pointer (some ⟨g, 0, none⟩), batVal b] w fun e w' => e = .returned (.int .i64 (R.refusal b)) ∧ TurnedR w L who g (R.submitted b) w' := by
  have hB0 := fun o => (Below.refl w.heap.size w).alloc (Nat.le_refl _) o
  have HK : Hid (∀ w1, Below w.heap.size w w1 → RefAt w1 L who g R) := fun w1 h1 => h.keep (Step.of_below (p := fun _ => False) (L := L) h1) (fun _ h => h)
  obtain ⟨nv, qv, bv, dv, la, lk, h⟩ := h
  obtain ⟨ta, tc, rfl, _⟩ := h.tk.shape
  have c13 : w.cell? ⟨g, 13, none⟩ = some (.slice ta R.rs.length tc) := h.blk.1.cell 13
  have c15 : w.cell? ⟨g, 15, none⟩ = some (.slice la R.c.d.toNat lk) := h.blk.1.cell 15
  have c2 : w.cell? ⟨g, 2, none⟩ = some (.int .i64 R.c.q) := h.blk.1.cell 2
  have c4 : w.cell? ⟨g, 4, none⟩ = some (.int .i64 R.c.ba) := h.blk.1.cell 4
  have hgl := h.blk.1.lt
  have HH := hide h
  have hB00 := hide hB0
  have htn : ((R.c.d.toNat : Nat) : Int) = R.c.d := Int.toNat_of_nonneg hd0
  generalize hdn : R.c.d.toNat = dn at *
  unfold batVal
  clear h hB0
  go_enter Tryz.func48, Tryz.ntmps48
  go_wp2_with fail
  refine (refTenant_any L who g R b.ten _ (HK.out _ (hB00.out _)) hn).mono ?_
  rintro e w' ⟨rfl, rfl⟩
  generalize hft : findN R.ns b.ten = ft
  have Hft := hide hft
  clear hft
  go_wp2_with fail
  refine (refPlace_any L who g R b.id _ (HK.out _ (hB00.out _)) hb).mono ?_
  rintro e w' ⟨rfl, rfl⟩
  generalize hfi : findId R.bs b.id = fi
  have Hfi := hide hfi
  clear hfi
  go_wp2_with fail
  refine (refPending_any L who g R b.ten _ (HK.out _ (hB00.out _)) hb).mono ?_
  rintro e w' ⟨rfl, rfl⟩
  generalize hct : cntP R.bs b.ten = ct
  have Hct := hide hct
  clear hct
  have HU := hide (fun n (hn : R.refusal b = n) (h0 : n ≠ 0) nq => ref_no (w' := (w.alloc (.cells #[.int .i64 b.dst, encStr b.ten, encStr b.id, encStr b.body] 45)).drewN nq) (L := L) (who := who) (g := g) hn h0 (below_drewN (hB00.out _) nq) (HK.out _ (below_drewN (hB00.out _) nq)))
  by_cases h1 : b.dst < 0
  · go_wp2_with fail
    go_quiet (fail)
    go_wp2_with fail
    go_ret
    exact HU.out 3 (by unfold Rf.refusal; rw [if_pos (by omega)]) (by decide) _
  have h1d : decide (b.dst < 0) = false := by simpa using h1
  by_cases h2 : (dn : Int) ≤ b.dst
  · go_wp2_with fail
    go_quiet (fail)
    go_wp2_with fail
    go_ret
    exact HU.out 3 (by unfold Rf.refusal; rw [if_pos (by omega)]) (by decide) _
  have h2d : decide ((dn : Int) ≤ b.dst) = false := by simpa using h2
  have hdst : 0 ≤ b.dst ∧ b.dst < R.c.d := by omega
  have Hdst := hide hdst
  clear hdst
  go_wp2_with fail
  go_quiet (fail)
  by_cases h3 : ft < 0
  · go_wp2_with fail
    go_ret
    exact HU.out 4 (by unfold Rf.refusal; rw [Hft.out, Hfi.out, Hct.out]; have := Hdst.out; (repeat' split) <;> first | rfl | omega) (by decide) _
  by_cases h4 : (b.id.length : Int) < 1
  · go_wp2_with fail
    go_ret
    exact HU.out 5 (by unfold Rf.refusal; rw [Hft.out, Hfi.out, Hct.out]; have := Hdst.out; (repeat' split) <;> first | rfl | omega) (by decide) _
  by_cases h5 : (16 : Int) < (b.id.length : Int)
  · go_wp2_with fail
    go_ret
    exact HU.out 5 (by unfold Rf.refusal; rw [Hft.out, Hfi.out, Hct.out]; have := Hdst.out; (repeat' split) <;> first | rfl | omega) (by decide) _
  by_cases h6 : (63 : Int) < (b.body.length : Int)
  · go_wp2_with fail
    go_ret
    exact HU.out 6 (by unfold Rf.refusal; rw [Hft.out, Hfi.out, Hct.out]; have := Hdst.out; (repeat' split) <;> first | rfl | omega) (by decide) _
  by_cases h7 : 0 ≤ fi
  · go_wp2_with fail
    go_ret
    exact HU.out 7 (by unfold Rf.refusal; rw [Hft.out, Hfi.out, Hct.out]; have := Hdst.out; (repeat' split) <;> first | rfl | omega) (by decide) _
  by_cases h8 : (120 : Int) ≤ (R.rs.length : Int)
  · go_wp2_with fail
    go_ret
    exact HU.out 8 (by unfold Rf.refusal; rw [Hft.out, Hfi.out, Hct.out]; have := Hdst.out; (repeat' split) <;> first | rfl | omega) (by decide) _
  by_cases h9 : R.c.q ≤ (ct : Int)
  · go_wp2_with fail
    go_ret
    exact HU.out 9 (by unfold Rf.refusal; rw [Hft.out, Hfi.out, Hct.out]; have := Hdst.out; (repeat' split) <;> first | rfl | omega) (by decide) _
  have HE : Hid (R.refusal b = 0) := (by unfold Rf.refusal; rw [Hft.out, Hfi.out, Hct.out]; have := Hdst.out; (repeat' split) <;> first | rfl | omega)
  go_wp2_with fail
  generalize hV : World.drewN (World.alloc w _) _ = V
  have hBV : Below w.heap.size w V := by rw [← hV]; exact below_drewN (hB00.out _) _
  have hNV : Blk V w.heap.size #[.int .i64 b.dst, encStr b.ten, encStr b.id, encStr b.body] 45 := by rw [← hV]; exact (Blk.new w _ _).drewN _
  have hAV : RfAt V L who g R nv qv (.slice ta R.rs.length tc) dv la lk := ⟨HH.out.blk.keep (Step.of_below (p := fun _ => False) hBV) (fun h => h), HH.out.nm.keep (Step.of_below (p := fun _ => False) hBV) (fun h => h), HH.out.tk.keep (Step.of_below (p := fun _ => False) hBV) (fun h => h), HH.out.dd.keep (Step.of_below (p := fun _ => False) hBV) (fun h => h)⟩
  have d0 : V.cell? ⟨w.heap.size, 0, none⟩ = some (.int .i64 b.dst) := hNV.cell 0
  have d1 : V.cell? ⟨w.heap.size, 1, none⟩ = some (encStr b.ten) := hNV.cell 1
  have d2 : V.cell? ⟨w.heap.size, 2, none⟩ = some (encStr b.id) := hNV.cell 2
  have d3 : V.cell? ⟨w.heap.size, 3, none⟩ = some (encStr b.body) := hNV.cell 3
  have t13 : V.cell? ⟨g, 13, none⟩ = some (.slice ta R.rs.length tc) := hAV.blk.1.cell 13
  have t4 : V.cell? ⟨g, 4, none⟩ = some (.int .i64 R.c.ba) := hAV.blk.1.cell 4
  have HBV := hide hBV
  have HAV := hide hAV
  have hgc : g < V.heap.size := hAV.blk.1.lt
  have hnl : w.heap.size < V.heap.size := hNV.lt
  obtain ⟨i1, hi1, hy0, hy1, hy2⟩ := info_parts infoRefBatch3
  clear hV hBV hNV hAV c13 c15 c2 c4
  go_region_law (refine step_append_lies _ (by rfl) _ _ _ (by rfl) 0 112 i1 _ 8 88 Tryz.underlying103 hi1 hy0 hy1 hy2 rfl (by omega) (.slice ta R.rs.length tc) R.rs.length (R.rs.flatMap RBat.cells) (by rfl) ((HAV.out.tk.1.alloc _).drew) ⟨V.heap.size, 0, none⟩ 1 1 (RBat.cells ⟨b.fresh, R.c.ba, 0⟩) (by rfl) (by rfl) (World.news_of_block (cs := (RBat.cells ⟨b.fresh, R.c.ba, 0⟩).toArray) (t := 112) (fr := (0, 0)) (heap_alloc_new V _)) (by simp [Value.oneCell', RBat.cells, Bat.cells, encStr]) (by omega) (by unfold maxLen; omega) (by omega) (by omega) (V.heap.size + 1) (by simp) ?_; intro g2 cap2 w2 hown2 hg2 hat2 hlt2; have hBk := Blk.grown (w := World.drew (World.alloc V _)) (HAV.out.blk.1.alloc _) hg2 (fun e => by have := HAV.out.tk.2 g e.symm; rw [HAV.out.blk.2] at this; simp at this); have z0 := hBk.cell 13; have y0 := hBk.frozen 13; simp [refCells] at z0; have HU := hide (rtaken_step HAV.out hown2 hg2 hat2); clear hBk hown2 hg2 hat2)
  all_goals
    go_wp2_with fail
    go_ret
    obtain ⟨L2, hA2, hS2⟩ := HU.out
    have e : R.submitted b = R.taken b := if_pos HE.out
    rw [e, HE.out]
    exact ⟨rfl, L2, hA2, (Step.of_below HBV.out).trans hS2⟩
end Go.Proofs.YtojpjaifhjigfaaGreatDoor

/- pick, lasts; Submit keeps the two agents alike. -/
namespace Go.Proofs.YtojpjaifhjigfaaGreatDoor
open Go.RowKit Go.Maps

/-- Which of n things a number speaks of. -/
def pickN (z : Int) (n : Nat) : Nat := (if z < 0 then (-(z + 1)).toNat else z.toNat) % n
theorem pickN_lt (z : Int) {n : Nat} (h : 0 < n) : pickN z n < n := Nat.mod_lt _ h

theorem pick_neg {z : Int} (n : Nat) (h : z < 0) : -(z + 1).tmod n = (pickN z n : Int) := by
  have e : z + 1 = -((-(z + 1)).toNat : Int) := by omega
  unfold pickN
  rw [if_pos h]
  generalize (-(z + 1)).toNat = k at *
  rw [e, Int.neg_tmod, Int.neg_neg]
  rfl
theorem pick_pos {z : Int} (n : Nat) (h : 0 ≤ z) : z % n = (pickN z n : Int) := by
  unfold pickN
  rw [if_neg (by omega)]
  obtain ⟨k, rfl⟩ := Int.eq_ofNat_of_zero_le h
  simp

set_option maxHeartbeats 1000000 in
theorem pick_any (z : Int) (n : Nat) (w : World) (h0 : -9223372036854775808 ≤ z) (h1 : z ≤ 9223372036854775807) (hn : 0 < n) : Calls Tryz.prog 40 #[.int .i64 z, .int .i64 n] w fun e w' => e = .returned (.int .i64 (pickN z n)) ∧ w' = w := by
  have hn0 : ¬ ((n : Int) = 0) := by omega
  by_cases hz : z < 0
  · go_enter Tryz.func40, Tryz.ntmps40
    go_wp2
    go_ret
    exact ⟨ret_int (pick_neg n hz), rfl⟩
  · go_enter Tryz.func40, Tryz.ntmps40
    go_wp2
    go_ret
    exact ⟨ret_int (pick_pos n hz), rfl⟩

set_option maxRecDepth 100000 in
set_option maxHeartbeats 1000000 in
theorem lasts_any (L : Labs) (who g : Nat) (R : Rf) (w : World) (h : RefAt w L who g R) (hb : R.rs.length ≤ 120) :
    Calls Tryz.prog 47 #[.pointer (some ⟨g, 0, none⟩)] w fun e w' => (∃ z, e = .returned (.int .i64 z)) ∧ Below w.heap.size w w' := by
  obtain ⟨nv, qv, bv, dv, la, lk, h⟩ := h
  obtain ⟨ta, tc, rfl, _⟩ := h.tk.shape
  have c13 : Hid (w.cell? ⟨g, 13, none⟩ = some (.slice ta R.rs.length tc)) := h.blk.1.cell 13
  have HT := hide h.tk
  have hgl := h.blk.1.lt
  generalize hn : R.rs.length = n at *
  have Hn := hide hn
  clear h hn
  go_enter Tryz.func47, Tryz.ntmps47
  go_wp2_with fail
  go_loopw [3, 4] (fun q i wr => ∃ (k : Nat) (z : Int), k ≤ n ∧ i = .int .i64 k ∧ q = .int .i64 z ∧ Below w.heap.size w wr) (fun _ i _ => n - (intOf i).toNat)
  case atStart => exact ⟨0, 0, Nat.zero_le _, rfl, rfl, Below.refl _ _⟩
  case round =>
    obtain ⟨k, z, hk, rfl, rfl, hnx⟩ := hrel
    have Hnx := hide hnx
    have d13 : wr.cell? ⟨g, 13, none⟩ = some (.slice ta n tc) := (hnx.cell (p := ⟨g, 13, none⟩) hgl).trans c13.out
    clear hnx
    by_cases hlt : k < n
    · have hltI : (k : Int) < (n : Int) := by omega
      obtain ⟨gt, rfl, hgt, _, hct, _⟩ := HT.out.head (by omega)
      obtain ⟨r, hr⟩ : ∃ r, R.rs[k]? = some r := ⟨_, List.getElem?_eq_getElem (by rw [Hn.out]; exact hlt)⟩
      have e4 : wr.cell? ⟨gt, k * 8 + 4, none⟩ = some (.int .i64 r.b.st) := (Hnx.out.cell (p := ⟨gt, _, none⟩) hgt).trans (hct _ _ (RBat.cell hr (by omega) rfl))
      have e5 : wr.cell? ⟨gt, k * 8 + 5, none⟩ = some (.int .i64 r.b.fl) := (Hnx.out.cell (p := ⟨gt, _, none⟩) hgt).trans (hct _ _ (RBat.cell hr (by omega) rfl))
      clear hct hr
      go_wp2_with fail
      go_quiet (fail)
      go_wp2_with fail
      go_roundw
      case rel => exact ⟨k + 1, _, by omega, by go_num, rfl, below_drewN Hnx.out _⟩
      case measure => simp [intOf]; omega
    · go_wp2_with fail
      go_ret
      exact ⟨⟨_, rfl⟩, Hnx.out⟩

theorem sim_refusal {M : Ag} {R : Rf} (h : Sim M R) (b : Bat) : R.refusal b = M.refusal b := by
  have hr : R.rs.length = M.bs.length := by have := congrArg List.length h.bs; simpa [Rf.bs] using this
  have e1 : (¬ (0 ≤ b.dst ∧ b.dst < R.c.d)) ↔ destB M b.dst = false := by
    rw [h.c]; simp [destB]
  have e2 : findN R.ns b.ten < 0 ↔ Maps.has M.D (.string b.ten) = false := by
    rw [findN_neg, h.hs]; simp
  have e3 : (b.id.length < 1 ∨ 16 < b.id.length) ↔ inB b.id.length 1 16 = false := by
    simp only [inB, Bool.and_eq_false_iff, decide_eq_false_iff_not]; omega
  have e5 : 0 ≤ findId R.bs b.id ↔ findId M.bs b.id ≠ -1 := by
    rw [h.bs]
    rcases findId_cases M.bs b.id with ⟨q, _⟩ | ⟨i, _, q, _⟩ <;> rw [q] <;> simp
  have e6 : (R.c.q ≤ (cntP R.bs b.ten : Int)) ↔ M.c.q ≤ (waits M.bs b.ten : Int) := by
    rw [h.c, h.waits]
  unfold Rf.refusal Ag.refusal Ag.misfit
  simp only [e1, e2, e3, e5, e6, hr]
  by_cases a1 : destB M b.dst = false
  · simp [a1]
  by_cases a2 : Maps.has M.D (.string b.ten) = false
  · simp [a1, a2]
  by_cases a3 : inB b.id.length 1 16 = false
  · simp [a1, a2, a3]
  by_cases a4 : 63 < b.body.length
  · simp [a1, a2, a3, a4]
  by_cases a5 : findId M.bs b.id ≠ -1
  · simp [a1, a2, a3, a4, a5]
  by_cases a6 : 120 ≤ M.bs.length
  · simp [a1, a2, a3, a4, a5, a6]
  · simp [a1, a2, a3, a4, a5, a6]

theorem sim_submitted {M : Ag} {R : Rf} (h : Sim M R) (b : Bat) : Sim (M.submitted b) (R.submitted b) := by
  unfold Ag.submitted Rf.submitted
  rw [sim_refusal h b]
  by_cases h0 : M.refusal b = 0
  · rw [if_pos h0, if_pos h0]
    obtain ⟨r1, r2, r3, r4, r5, r6, r7⟩ := refusal_zero h0
    have hd : 0 ≤ b.dst ∧ b.dst < M.c.d := by simpa [destB] using r1
    have hi : 1 ≤ b.id.length ∧ b.id.length ≤ 16 := by simp [inB] at r3; omega
    have ht : b.ten ∈ R.ns := (h.hs _).2 r2
    refine ⟨h.c, ?_, h.dd, h.dr, h.good, h.pm, h.nd, h.nl, h.sl, h.hs, ?_, ?_, ?_, ?_⟩
    · show (R.rs ++ [_]).map _ = M.bs ++ [_]
      rw [List.map_append]
      congr 1
      exact h.bs
    · show (M.bs ++ [_]).length ≤ 120
      simp; omega
    · intro x hx
      have hx' : x ∈ M.bs ++ [b.fresh] := hx
      rcases List.mem_append.1 hx' with q | q
      · exact h.each x q
      · obtain rfl := List.mem_singleton.1 q
        exact ⟨hd.1, hd.2, ht, rfl, hi.1, hi.2, r4⟩
    · show (M.rt ++ [_]).length = (M.bs ++ [_]).length
      simp [h.rt]
    · show (M.log ++ recBytes b).length ≤ 103 * (M.bs ++ [_]).length
      have h1 := h.lg
      have h2 := evBytes_le b (h.sl _ ht).2 hi.2 r4
      simp [recBytes]
      omega
  · rw [if_neg h0, if_neg h0]
    exact h
end Go.Proofs.YtojpjaifhjigfaaGreatDoor

/- (*World).step, of the kinds that Taken plays: 1, 2, 5, 6, 7. -/
namespace Go.Proofs.YtojpjaifhjigfaaGreatDoor
open Go.RowKit Go.Maps

/-- A step of a script. -/
structure Opn where
  k : Int
  ag : Int
  b : Bat
  d : Int
  ms : Int
  dr : Int
  gd : Bool
  ys : Bool
def Opn.cells (o : Opn) : List Value := [.int .i64 o.k, .int .i64 o.ag, .int .i64 o.b.dst, encStr o.b.ten, encStr o.b.id, encStr o.b.body, .int .i64 o.d, .int .i64 o.ms, .int .i64 o.dr, .bool o.gd, .bool o.ys]
def Opn.val (o : Opn) : Value := .agg o.cells.toArray
theorem Opn.cells_length (o : Opn) : o.cells.length = 11 := rfl
structure Opn.Ok (o : Opn) : Prop where
  a0 : -9223372036854775808 ≤ o.ag
  a1 : o.ag ≤ 9223372036854775807
  m0 : -9223372036854775808 ≤ o.ms
  m1 : o.ms ≤ 9223372036854775807
  tl : o.b.ten.length ≤ maxLen

/-- The law's world behind a step. -/
def Stepped (w : World) (L : Labs) (gw : Nat) (A : Nat → Addr) (cur : Array Value) (np nt nm : Nat) (w' : World) : Prop :=
  ∃ L' cur' pv' tv' mv' np' nt' nm' ps', WAt w' L' gw A cur' pv' tv' mv' np' nt' nm' ps' ∧ np ≤ np' ∧ np' ≤ np + 1 ∧ nt' % 4 = 0 ∧ nt' ≤ nt + 8 ∧ nm' ≤ nm + 2 ∧ (∀ i, i < 22 ∨ i = 26 → cur'[i]? = cur[i]?) ∧ Step someP L w L' w'

theorem WAt.agents {w w' : World} {L L' : Labs} {gw : Nat} {A : Nat → Addr} {cur : Array Value} {pv tv mv : Value} {np nt nm : Nat} {ps : List Value} (h : WAt w L gw A cur pv tv mv np nt nm ps) {i gp gx gy : Nat} {c : Cfg} {m : Option Nat} {sv lg : Value} {M : Ag} {R : Rf}
    (hv : ps[i]? = some (.pointer (some ⟨gp, 0, none⟩))) (hB : BlkAt w L (bl 8 i) gp (prCells gx gy c m sv lg) 102) (hA : AgentAt w' L' (2 * i + 1) gx M) (hR : RefAt w' L' (2 * i + 2) gy R) (hS : Sim M R)
    (s : Step (fun l => ofP (2 * i + 1) l ∨ ofP (2 * i + 2) l) L w L' w') : WAt w' L' gw A cur pv tv mv np nt nm ps := by
  have n0 : ∀ q, ¬ (ofP (2 * i + 1) (some (0, q)) ∨ ofP (2 * i + 2) (some (0, q))) := fun q h => by
    rcases h with h | h
    · exact not_ofP (by omega) q h
    · exact not_ofP (by omega) q h
  have nn : ¬ (ofP (2 * i + 1) none ∨ ofP (2 * i + 2) none) := fun h => by
    rcases h with ⟨q, h⟩ | ⟨q, h⟩ <;> cases h
  refine ⟨h.blk.keep s (n0 _), h.c22, h.c23, h.c24, h.c25, h.prs.keep s (n0 _), fun j v hj => ?_, h.txt.keep s (n0 _) (fun _ _ => n0 _), h.mps.keep s (n0 _) (fun _ _ => n0 _), h.err.keep s nn⟩
  by_cases e : j = i
  · subst e
    rw [hv] at hj
    cases hj
    exact ⟨gp, M, R, rfl, gx, gy, c, m, sv, lg, hB.keep s (n0 _), hA, hR, hS⟩
  · obtain ⟨gp', M', R', e', hP⟩ := h.pr j v hj
    refine ⟨gp', M', R', e', hP.keep s (n0 _) (fun q h => ?_) (fun q h => ?_)⟩
    · rcases h with h | h
      · exact not_ofP (by omega) q h
      · exact not_ofP (by omega) q h
    · rcases h with h | h
      · exact not_ofP (by omega) q h
      · exact not_ofP (by omega) q h

theorem is_any (A : Nat → Addr) (n : Nat) (w : World) (hS : Sents.Holds w 260 gl 11 A) (hn : n ≤ 11) : Calls Tryz.prog 49 #[errV A n, .int .i64 n] w fun e w' => e = .returned (.bool true) ∧ Below w.heap.size w w' := by
  cases n with
  | zero =>
    refine (is_ok w).mono ?_
    rintro e w' ⟨rfl, rfl⟩
    exact ⟨rfl, Below.refl _ _⟩
  | succ k => exact is_err A k w hS (by omega)

theorem refusal_le (M : Ag) (b : Bat) : M.refusal b ≤ 11 := by
  unfold Ag.refusal Ag.misfit
  (repeat' split) <;> omega

theorem pickIs (z : Int) (h0 : -9223372036854775808 ≤ z) (h1 : z ≤ 9223372036854775807) : PickIs z (pickN z 2) := fun w => pick_any z 2 w h0 h1 (by omega)

set_option maxRecDepth 100000 in
set_option maxHeartbeats 4000000 in
theorem step_open (L : Labs) (gw : Nat) (A : Nat → Addr) (o : Opn) (cur : Array Value) (pv tv mv : Value) (np nt nm : Nat) (ps : List Value) (c0 c1 : Cfg) (m0 m1 : Option Nat) (D0 D1 : DataW Unit) (w : World) (h : WAt w L gw A cur pv tv mv np nt nm ps) (hc0 : CfgAt w L cur 0 c0 m0 D0) (hc1 : CfgAt w L cur 1 c1 m1 D1)
    (ho : o.Ok) (hk : o.k = 1) (h4 : nt % 4 = 0) (hnp : np ≤ 8000000) : Calls Tryz.prog 18 #[.pointer (some ⟨gw, 0, none⟩), o.val] w fun e w' => e = .returned (.bool true) ∧ Stepped w L gw A cur np nt nm w' := by
  have HO : Hid (∀ o1, Calls Tryz.prog 16 #[.pointer (some ⟨gw, 0, none⟩), .int .i64 o.ms] (w.alloc o1) fun e w' => e = .returned (.bool true) ∧ Stepped w L gw A cur np nt nm w') := fun o1 => by
    have key : ∀ n c m D, n < 2 → PickIs o.ms n → CfgAt (w.alloc o1) L cur n c m D → Calls Tryz.prog 16 #[.pointer (some ⟨gw, 0, none⟩), .int .i64 o.ms] (w.alloc o1) fun e w' => e = .returned (.bool true) ∧ Stepped w L gw A cur np nt nm w' := fun n c m D hn hpk hc => by
      refine (opened_any L gw A o.ms n hn hpk cur pv tv mv np nt nm ps c m D (w.alloc o1) (h.step (Step.alloc L w o1)) hc hnp).mono ?_
      rintro e w' ⟨rfl, L', cur', pv', np', ps', h1, h2, h3, _, h5, h6⟩
      exact ⟨rfl, L', cur', pv', tv, mv, np', nt, nm, ps', h1, h2, h3, h4, by omega, by omega, fun i hi => h5 i (by omega), (Step.alloc L w o1).trans (h6.mono (fun l h => by rcases h with rfl | rfl <;> simp [someP, bl]))⟩
    have hs := Step.alloc (p := fun _ => False) L w o1
    have hlt := pickN_lt o.ms (n := 2) (by omega)
    have hpk := pickIs o.ms ho.m0 ho.m1
    generalize pickN o.ms 2 = n at *
    match n, hlt with
    | 0, _ => exact key 0 c0 m0 D0 (by omega) hpk (hc0.keep hs (fun h => h) (fun _ _ => rfl) (by omega))
    | 1, _ => exact key 1 c1 m1 D1 (by omega) hpk (hc1.keep hs (fun h => h) (fun _ _ => rfl) (by omega))
  unfold Opn.val Opn.cells
  rw [hk]
  clear h hc0 hc1 ho hk
  go_enter Tryz.func18, Tryz.ntmps18
  go_wp2_with fail
  refine (HO.out _).mono ?_
  rintro e w' ⟨rfl, hT⟩
  have HT := hide hT
  clear hT
  go_wp2_with fail
  go_ret
  exact ⟨rfl, HT.out⟩
end Go.Proofs.YtojpjaifhjigfaaGreatDoor

/- (*World).step: the other kinds. -/
namespace Go.Proofs.YtojpjaifhjigfaaGreatDoor
open Go.RowKit Go.Maps

theorem Stepped.same {w w' : World} {L : Labs} {gw : Nat} {A : Nat → Addr} {cur : Array Value} {pv tv mv : Value} {np nt nm : Nat} {ps : List Value} (h : WAt w L gw A cur pv tv mv np nt nm ps) (h4 : nt % 4 = 0) (hb : Below w.heap.size w w') : Stepped w L gw A cur np nt nm w' :=
  ⟨L, cur, pv, tv, mv, np, nt, nm, ps, h.below hb, Nat.le_refl _, by omega, h4, by omega, by omega, fun _ _ => rfl, Step.of_below hb⟩

set_option maxRecDepth 100000 in
set_option maxHeartbeats 4000000 in
theorem step_skip (L : Labs) (gw : Nat) (A : Nat → Addr) (o : Opn) (cur : Array Value) (pv tv mv : Value) (np nt nm : Nat) (ps : List Value) (w : World) (h : WAt w L gw A cur pv tv mv np nt nm ps) (h26 : cur[26]? = some (.int .i64 7))
    (hk : o.k < 1 ∨ 7 < o.k) (h4 : nt % 4 = 0) : Calls Tryz.prog 18 #[.pointer (some ⟨gw, 0, none⟩), o.val] w fun e w' => e = .returned (.bool true) ∧ Stepped w L gw A cur np nt nm w' := by
  have c26 : w.cell? ⟨gw, 26, none⟩ = some (.int .i64 7) := (h.blk.1.cell 26).trans h26
  have hgl := h.blk.1.lt
  have HU := hide (fun o1 n => Stepped.same h h4 (below_drewN ((Below.refl w.heap.size w).alloc (Nat.le_refl _) o1) n))
  unfold Opn.val Opn.cells
  clear h
  generalize o.k = k at *
  have hne : ¬ k = 1 := by omega
  rcases hk with hk | hk
  · go_enter Tryz.func18, Tryz.ntmps18
    go_wp2_with fail
    go_quiet (fail)
    go_wp2_with fail
    go_ret
    exact ⟨rfl, HU.out _ _⟩
  · have hd : decide (k < 1) = false := by simp; omega
    go_enter Tryz.func18, Tryz.ntmps18
    go_wp2_with fail
    go_quiet (fail)
    go_wp2_with fail
    go_ret
    exact ⟨rfl, HU.out _ _⟩

set_option maxRecDepth 100000 in
set_option maxHeartbeats 4000000 in
theorem step_do_core (L : Labs) (gw : Nat) (A : Nat → Addr) (o : Opn) (cur : Array Value) (pv tv mv : Value) (np nt nm : Nat) (ps : List Value) (w : World) (hLn : ∀ k, w.heap.size ≤ k → L k = none) (h : WAt w L gw A cur pv tv mv np nt nm ps) (h26 : cur[26]? = some (.int .i64 7))
    (ho : o.Ok) (hk : o.k = 2 ∨ o.k = 5 ∨ o.k = 6 ∨ o.k = 7) (h4 : nt % 4 = 0) (hn1 : 1 ≤ np) (hn : nt + 8 ≤ 8000000) (hm : nm + 2 ≤ 8000000) : Calls Tryz.prog 18 #[.pointer (some ⟨gw, 0, none⟩), o.val] w fun e w' => e = .returned (.bool true) ∧ Stepped w L gw A cur np nt nm w' := by
  have c26 : w.cell? ⟨gw, 26, none⟩ = some (.int .i64 7) := (h.blk.1.cell 26).trans h26
  have hgl := h.blk.1.lt
  obtain ⟨pa, pk, rfl, _⟩ := h.prs.shape
  obtain ⟨gr, rfl, hgr, _, hcell, _⟩ := h.prs.head (by omega)
  have hpl : ps.length = np := by have := h.prs.1.1; omega
  have hlt : pickN o.ag np < np := pickN_lt _ (by omega)
  have HPick := hide (fun w => pick_any o.ag np w ho.a0 ho.a1 (by omega))
  generalize hi : pickN o.ag np = i at *
  obtain ⟨v, hv⟩ : ∃ v, ps[i]? = some v := ⟨_, List.getElem?_eq_getElem (by omega)⟩
  obtain ⟨gp, M, R, rfl, hP⟩ := h.pr i v hv
  have hci := hcell i _ hv
  have c22 : w.cell? ⟨gw, 22, none⟩ = some (.slice (some ⟨gr, 0, none⟩) np pk) := (h.blk.1.cell 22).trans h.c22
  obtain ⟨gx, gy, c, m, sv, lg, hpb, hA, hR, hSim⟩ := hP
  have p0 : w.cell? ⟨gp, 0, none⟩ = some (.pointer (some ⟨gx, 0, none⟩)) := hpb.1.cell 0
  have p1 : w.cell? ⟨gp, 1, none⟩ = some (.pointer (some ⟨gy, 0, none⟩)) := hpb.1.cell 1
  have hgpl := hpb.1.lt
  have hrl : R.rs.length ≤ 120 := by have := congrArg List.length hSim.bs; simp [Rf.bs] at this; have := hSim.b120; omega
  have hiI : (i : Int) < (np : Int) := by omega
  have H := hide h
  have Hv := hide hv
  have HPb := hide hpb
  have HA := hide hA
  have HR := hide hR
  have HSim := hide hSim
  have HTl := hide ho.tl
  obtain ⟨kk, hkk⟩ : ∃ kk, kk = o.k := ⟨_, rfl⟩
  have Hkk := hide hkk
  have hk1 : ¬ o.k = 1 := by omega
  have hk2 : decide (o.k < 1) = false := by simp; omega
  have hk3 : decide (7 < o.k) = false := by simp; omega
  clear h hcell hv hpb hA hR hSim ho hkk
  unfold Opn.val Opn.cells
  go_enter Tryz.func18, Tryz.ntmps18
  go_wp2_with fail
  go_quiet (fail)
  go_wp2_with fail
  generalize hV : World.drewN (World.alloc w _) _ = V
  have hBV : Below w.heap.size w V := by rw [← hV]; exact below_drewN ((Below.refl w.heap.size w).alloc (Nat.le_refl _) _) _
  have hNV : Blk V w.heap.size o.cells.toArray 47 := by rw [← hV]; exact (Blk.new w _ _).drewN _
  have f0 : V.cell? ⟨w.heap.size, 0, none⟩ = some (.int .i64 o.k) := hNV.cell 0
  have f1 : V.cell? ⟨w.heap.size, 1, none⟩ = some (.int .i64 o.ag) := hNV.cell 1
  have f2 : V.cell? ⟨w.heap.size, 2, none⟩ = some (.int .i64 o.b.dst) := hNV.cell 2
  have f3 : V.cell? ⟨w.heap.size, 3, none⟩ = some (encStr o.b.ten) := hNV.cell 3
  have f4 : V.cell? ⟨w.heap.size, 4, none⟩ = some (encStr o.b.id) := hNV.cell 4
  have f5 : V.cell? ⟨w.heap.size, 5, none⟩ = some (encStr o.b.body) := hNV.cell 5
  have c22' : V.cell? ⟨gw, 22, none⟩ = some (.slice (some ⟨gr, 0, none⟩) np pk) := (hBV.cell (p := ⟨gw, 22, none⟩) hgl).trans c22
  have c26' : V.cell? ⟨gw, 26, none⟩ = some (.int .i64 7) := (hBV.cell (p := ⟨gw, 26, none⟩) hgl).trans c26
  have hci' : V.cell? ⟨gr, i, none⟩ = _ := (hBV.cell (p := ⟨gr, i, none⟩) hgr).trans hci
  have p0' : V.cell? ⟨gp, 0, none⟩ = some (.pointer (some ⟨gx, 0, none⟩)) := (hBV.cell (p := ⟨gp, 0, none⟩) hgpl).trans p0
  have p1' : V.cell? ⟨gp, 1, none⟩ = some (.pointer (some ⟨gy, 0, none⟩)) := (hBV.cell (p := ⟨gp, 1, none⟩) hgpl).trans p1
  have HS0 : Hid (Step (fun _ => False) L w L V) := Step.of_below hBV
  have HW := hide (H.out.step HS0.out)
  have HBV := hide hBV
  have HNV := hide hNV
  clear hV c22 c26 hci p0 p1 hBV hNV
  go_quiet ((go_at_call 40; exact Calls.quiet_of_same (HPick.out _)))
  go_wp2_with fail
  refine (lasts_any L (2 * i + 2) gy R _ (HR.out.keep (HS0.out.trans (Step.drewN L V _)) (fun _ h => h)) hrl).mono ?_
  rintro e w1 ⟨⟨z1, rfl⟩, hb1⟩
  have hbV1 : Below V.heap.size V w1 := (below_drewN (Below.refl V.heap.size V) _).trans hb1
  have hB1 : Below w.heap.size w w1 := HBV.out.trans (hbV1.mono HBV.out.size)
  have hN1 := HNV.out.below hbV1 HNV.out.lt
  have k0 : w1.cell? ⟨w.heap.size, 0, none⟩ = some (.int .i64 o.k) := hN1.cell 0
  have k2 : w1.cell? ⟨w.heap.size, 2, none⟩ = some (.int .i64 o.b.dst) := hN1.cell 2
  have k3 : w1.cell? ⟨w.heap.size, 3, none⟩ = some (encStr o.b.ten) := hN1.cell 3
  have k4 : w1.cell? ⟨w.heap.size, 4, none⟩ = some (encStr o.b.id) := hN1.cell 4
  have k5 : w1.cell? ⟨w.heap.size, 5, none⟩ = some (encStr o.b.body) := hN1.cell 5
  have HW1 := hide (H.out.below hB1)
  have c26 : w1.cell? ⟨gw, 26, none⟩ = some (.int .i64 7) := (HW1.out.blk.1.cell 26).trans h26
  have hgl1 := HW1.out.blk.1.lt
  have HPb1 := hide (HPb.out.keep (Step.of_below (p := fun _ => False) hB1) (fun h => h))
  have p0 : w1.cell? ⟨gp, 0, none⟩ = some (.pointer (some ⟨gx, 0, none⟩)) := HPb1.out.1.cell 0
  have p1 : w1.cell? ⟨gp, 1, none⟩ = some (.pointer (some ⟨gy, 0, none⟩)) := HPb1.out.1.cell 1
  have HA1 := hide (HA.out.keep (Step.of_below (p := fun _ => False) hB1) (fun _ h => h))
  have HR1 := hide (HR.out.keep (Step.of_below (p := fun _ => False) hB1) (fun _ h => h))
  have HB1 := hide hB1
  have HN1 := hide hN1
  clear hb1 hbV1 hB1 hN1 f0 f1 f2 f3 f4 f5 c22' c26' hci' p0' p1' hk1 hk2 hk3 HPick
  rcases hk with hk | hk | hk | hk
  · have hn11 := refusal_le M o.b
    have HSub : Hid (∀ w2, Below w1.heap.size w1 w2 → Calls Tryz.prog 27 #[.pointer (some ⟨gx, 0, none⟩), batVal o.b] w2 fun e w' => e = .returned (errV A (M.refusal o.b)) ∧ Turned w1 L (2 * i + 1) gx (M.submitted o.b) w') := fun w2 hb2 => by
      refine (submit_any A L (2 * i + 1) gx M o.b w2 (HW1.out.err.hs.below hb2) (HA1.out.keep (Step.of_below (p := fun _ => False) hb2) (fun _ h => h)) HSim.out.b120 HTl.out (Cfg.num_d HSim.out.good.1).2 (fun x hx => (HSim.out.sl x ((HSim.out.hs x).2 hx)).2) (by have := HSim.out.lg; have := HSim.out.b120; omega) (by rw [HSim.out.rt]; exact HSim.out.b120)).mono ?_
      rintro e w' ⟨rfl, L', h1, h2⟩
      exact ⟨rfl, L', h1, (Step.of_below hb2).trans h2⟩
    generalize hev : errV A (M.refusal o.b) = ev0 at *
    have Hev := hide hev
    unfold batVal at HSub
    rw [hk] at k0 ⊢
    clear hk hev
    go_upto_region 10 with fail
    go_cut [8] (fun s8 wx => s8 = ev0 ∧ Turned w1 L (2 * i + 1) gx (M.submitted o.b) wx)
    case first =>
      go_region_with ((go_at_call 27; refine (HSub.out _ (by first | exact Below.refl _ _ | exact (Below.refl _ _).drew)).mono ?_; rintro e w2 ⟨rfl, hT2⟩))
      all_goals (go_wp2_with fail; go_meet; exact ⟨rfl, hT2⟩)
    case rest =>
    obtain ⟨rfl, L2, hA2, hS2⟩ := hcut
    generalize hwc : wc = w2 at *
    clear hwc
    have hno : ¬ ofP (2 * i + 1) (L w.heap.size) := by
      rw [hLn _ (Nat.le_refl _)]
      rintro ⟨q, hq⟩
      cases hq
    have hN2 : Blk w2 w.heap.size o.cells.toArray 47 := by
      unfold Blk
      rw [hS2.block _ HN1.out.lt hno]
      exact HN1.out
    have k2' : w2.cell? ⟨w.heap.size, 2, none⟩ = some (.int .i64 o.b.dst) := hN2.cell 2
    have k3' : w2.cell? ⟨w.heap.size, 3, none⟩ = some (encStr o.b.ten) := hN2.cell 3
    have k4' : w2.cell? ⟨w.heap.size, 4, none⟩ = some (encStr o.b.id) := hN2.cell 4
    have k5' : w2.cell? ⟨w.heap.size, 5, none⟩ = some (encStr o.b.body) := hN2.cell 5
    have hnl2 := hN2.lt
    have hPb2 := HPb1.out.keep hS2 (not_ofP (by omega) _)
    have p1' : w2.cell? ⟨gp, 1, none⟩ = some (.pointer (some ⟨gy, 0, none⟩)) := hPb2.1.cell 1
    have hgp2 := hPb2.1.lt
    have hR2 := HR1.out.keep hS2 (fun q => not_ofP (by omega) q)
    have HRS : Hid (∀ w3, Below w2.heap.size w2 w3 → Calls Tryz.prog 48 #[.pointer (some ⟨gy, 0, none⟩), batVal o.b] w3 fun e w' => e = .returned (.int .i64 (M.refusal o.b)) ∧ TurnedR w2 L2 (2 * i + 2) gy (R.submitted o.b) w') := fun w3 hb3 => by
      refine (refSubmit_any L2 (2 * i + 2) gy R o.b w3 (hR2.keep (Step.of_below (p := fun _ => False) hb3) (fun _ h => h)) hrl (by have := HSim.out.nl; omega) (by have := (Cfg.num_d HSim.out.good.1).1; rw [HSim.out.c]; omega)).mono ?_
      rintro e w' ⟨rfl, L', h1, h2⟩
      rw [sim_refusal HSim.out]
      exact ⟨rfl, L', h1, (Step.of_below hb3).trans h2⟩
    have HA2 := hide hA2
    have HS2 := hide hS2
    clear hN2 hPb2 hR2 hA2 hS2 k2 k3 k4 k5 p0 p1
    generalize hrn : M.refusal o.b = rn at *
    have Hrn := hide hrn
    unfold batVal at HRS
    clear hrn
    go_upto_region 11 with fail
    go_cut [9] (fun s9 wx => s9 = .int .i64 rn ∧ TurnedR w2 L2 (2 * i + 2) gy (R.submitted o.b) wx)
    case first =>
      go_region_with ((go_at_call 48; refine (HRS.out _ (by first | exact Below.refl _ _ | exact (Below.refl _ _).drew)).mono ?_; rintro e w3 ⟨rfl, hT3⟩))
      all_goals (go_wp2_with fail; go_meet; exact ⟨rfl, hT3⟩)
    case rest =>
    obtain ⟨rfl, L3, hR3, hS3⟩ := hcut
    generalize hwc : wc = w3 at *
    clear hwc
    have hA3 := HA2.out.keep hS3 (fun q => not_ofP (by omega) q)
    have hst : Step (fun l => ofP (2 * i + 1) l ∨ ofP (2 * i + 2) l) L w1 L3 w3 := (HS2.out.mono (fun l h => Or.inl h)).trans (hS3.mono (fun l h => Or.inr h))
    have HW3 := hide (HW1.out.agents Hv.out HPb1.out hA3 hR3 (sim_submitted HSim.out o.b) hst)
    have HS3 : Hid (Step someP L w L3 w3) := (Step.of_below HB1.out).trans (hst.mono (fun l h => by rcases h with ⟨q, rfl⟩ | ⟨q, rfl⟩ <;> simp [someP]))
    have c26' : w3.cell? ⟨gw, 26, none⟩ = some (.int .i64 7) := (HW3.out.blk.1.cell 26).trans h26
    have hgl3 := HW3.out.blk.1.lt
    have HIs := hide (is_any A rn w3 HW3.out.err.hs hn11)
    rw [Hev.out] at HIs
    clear hA3 hR3 hS3 hst c26 k2' k3' k4' k5' p1'
    go_wp2_with fail
    refine HIs.out.mono ?_
    rintro e w4 ⟨rfl, hb4⟩
    have c26 : w4.cell? ⟨gw, 26, none⟩ = some (.int .i64 7) := (hb4.cell (p := ⟨gw, 26, none⟩) hgl3).trans c26'
    have HW4 := hide (HW3.out.below hb4)
    have HS4 := hide (HS3.out.trans (Step.of_below hb4))
    clear hb4
    go_wp2_with fail
    go_ret
    exact ⟨rfl, L3, cur, _, tv, mv, np, nt, nm, ps, HW4.out, Nat.le_refl _, by omega, h4, by omega, by omega, fun _ _ => rfl, HS4.out⟩
  · have HSt := hide (pStatus_any A L gp gx gy (2 * i + 1) (2 * i + 2) M R o.b.id w1 HW1.out.err.hs p0 p1 HA1.out HR1.out HSim.out.b120 HSim.out.bs)
    rw [hk] at k0 ⊢
    clear hk
    go_wp2_with fail
    refine HSt.out.mono ?_
    rintro e w2 ⟨rfl, hb2⟩
    have c26' : w2.cell? ⟨gw, 26, none⟩ = some (.int .i64 7) := (hb2.cell (p := ⟨gw, 26, none⟩) hgl1).trans c26
    have HB2 : Hid (Below w.heap.size w w2) := HB1.out.trans (hb2.mono HB1.out.size)
    clear hb2
    go_wp2_with fail
    go_ret
    exact ⟨rfl, Stepped.same H.out h4 HB2.out⟩
  · have HD := hide (wDead_any L gw gp gx gy (2 * i + 1) (2 * i + 2) nt tv cur M R w1 HW1.out.blk HW1.out.c23 HW1.out.txt h4 (by omega) p0 p1 HA1.out HR1.out HSim.out.dd HSim.out.dr HSim.out.b120)
    rw [hk] at k0 ⊢
    clear hk
    go_wp2_with fail
    refine HD.out.mono ?_
    rintro e w2 ⟨rfl, L2, tv2, hK2, hT2, hS2⟩
    have HW2 := hide (HW1.out.text hK2 hT2 hS2)
    have c26' : w2.cell? ⟨gw, 26, none⟩ = some (.int .i64 7) := by
      rw [hK2.1.cell 26, Array.getElem?_setIfInBounds_ne (by omega)]
      exact h26
    have HS2 : Hid (Step someP L w L2 w2) := (Step.of_below HB1.out).trans (hS2.mono (fun l h => by rcases h with ⟨j, _, rfl⟩ | rfl | rfl <;> simp [someP, bl]))
    clear hK2 hT2 hS2
    go_wp2_with fail
    go_ret
    exact ⟨rfl, L2, _, _, _, _, np, nt + 4 + 4, nm, ps, HW2.out, Nat.le_refl _, by omega, by omega, by omega, by omega, fun q hq => by rw [Array.getElem?_setIfInBounds_ne (by omega)], HS2.out⟩
  · have HD := hide (wWaiting_any L gw gp gx gy (2 * i + 1) (2 * i + 2) nm mv cur M R w1 HW1.out.blk HW1.out.c25 HW1.out.mps (by omega) p0 p1 HA1.out HR1.out HSim.out.b120 hrl (by have := HSim.out.nl; omega) HSim.out.waits HSim.out.nd HSim.out.named (fun x hx => by have := (HSim.out.sl x hx).2; unfold maxLen; omega))
    rw [hk] at k0 ⊢
    clear hk
    go_wp2_with fail
    refine HD.out.mono ?_
    rintro e w2 ⟨rfl, L2, mv2, hK2, hT2, hS2⟩
    have HW2 := hide (HW1.out.map hK2 hT2 hS2)
    have c26' : w2.cell? ⟨gw, 26, none⟩ = some (.int .i64 7) := by
      rw [hK2.1.cell 26, Array.getElem?_setIfInBounds_ne (by omega)]
      exact h26
    have HS2 : Hid (Step someP L w L2 w2) := (Step.of_below HB1.out).trans (hS2.mono (fun l h => by rcases h with ⟨j, _, rfl⟩ | rfl | rfl <;> simp [someP, bl]))
    clear hK2 hT2 hS2
    go_wp2_with fail
    go_ret
    exact ⟨rfl, L2, _, _, _, _, np, nt, nm + 1 + 1, ps, HW2.out, Nat.le_refl _, by omega, by omega, by omega, by omega, fun q hq => by rw [Array.getElem?_setIfInBounds_ne (by omega)], HS2.out⟩

theorem step_do (L : Labs) (gw : Nat) (A : Nat → Addr) (o : Opn) (cur : Array Value) (pv tv mv : Value) (np nt nm : Nat) (ps : List Value) (w : World) (h : WAt w L gw A cur pv tv mv np nt nm ps) (h26 : cur[26]? = some (.int .i64 7))
    (ho : o.Ok) (hk : o.k = 2 ∨ o.k = 5 ∨ o.k = 6 ∨ o.k = 7) (h4 : nt % 4 = 0) (hn1 : 1 ≤ np) (hn : nt + 8 ≤ 8000000) (hm : nm + 2 ≤ 8000000) : Calls Tryz.prog 18 #[.pointer (some ⟨gw, 0, none⟩), o.val] w fun e w' => e = .returned (.bool true) ∧ Stepped w L gw A cur np nt nm w' := by
  refine (step_do_core (clip L w.heap.size) gw A o cur pv tv mv np nt nm ps w (fun k hk => clip_none L hk) (h.step (Step.clipped L w)) h26 ho hk h4 hn1 hn hm).mono ?_
  rintro e w' ⟨rfl, L', cur', pv', tv', mv', np', nt', nm', ps', q1, q2, q3, q4, q5, q6, q7, q8⟩
  exact ⟨rfl, L', cur', pv', tv', mv', np', nt', nm', ps', q1, q2, q3, q4, q5, q6, q7, (Step.clipped L w).trans q8⟩

/-- A step of any kind but 3 and 4. -/
theorem step_any (L : Labs) (gw : Nat) (A : Nat → Addr) (o : Opn) (cur : Array Value) (pv tv mv : Value) (np nt nm : Nat) (ps : List Value) (c0 c1 : Cfg) (m0 m1 : Option Nat) (D0 D1 : DataW Unit) (w : World) (h : WAt w L gw A cur pv tv mv np nt nm ps) (hc0 : CfgAt w L cur 0 c0 m0 D0) (hc1 : CfgAt w L cur 1 c1 m1 D1) (h26 : cur[26]? = some (.int .i64 7))
    (ho : o.Ok) (h3 : o.k ≠ 3) (h4' : o.k ≠ 4) (h4 : nt % 4 = 0) (hn1 : 1 ≤ np) (hnp : np ≤ 8000000) (hn : nt + 8 ≤ 8000000) (hm : nm + 2 ≤ 8000000) : Calls Tryz.prog 18 #[.pointer (some ⟨gw, 0, none⟩), o.val] w fun e w' => e = .returned (.bool true) ∧ Stepped w L gw A cur np nt nm w' := by
  by_cases h1 : o.k = 1
  · exact step_open L gw A o cur pv tv mv np nt nm ps c0 c1 m0 m1 D0 D1 w h hc0 hc1 ho h1 h4 hnp
  by_cases h2 : o.k < 1 ∨ 7 < o.k
  · exact step_skip L gw A o cur pv tv mv np nt nm ps w h h26 h2 h4
  · exact step_do L gw A o cur pv tv mv np nt nm ps w h h26 ho (by omega) h4 hn1 hn hm
end Go.Proofs.YtojpjaifhjigfaaGreatDoor
