/- Steps of the proof (several texts in one): Take, Play, Admit, Misfit, Submit. -/
import Derived.Test.YtojpjaifhjigfaaGreatDoorMTakenupto08
import Derived.Test.YtojpjaifhjigfaaGreatDoorMTakenupto06
import Derived.Laws.ResultCell
import Derived.Test.YtojpjaifhjigfaaGreatDoorMTakenupto03

/- take: a batch is laid at the end of its queue. -/
namespace Go.Proofs.YtojpjaifhjigfaaGreatDoor
open Go.RowKit Go.Maps

def batVal (b : Bat) : Value := .agg #[.int .i64 b.dst, encStr b.ten, encStr b.id, encStr b.body]
theorem infoBatch : (Tryz.prog.info? 45).map (·.size) = some 4 := by kernel_rfl

set_option maxRecDepth 100000 in
set_option maxHeartbeats 1000000 in
theorem ownBatch_any (b : Bat) (w : World) (ht : b.ten.length ≤ 16) (hid : b.id.length ≤ 16) (hbo : b.body.length ≤ 63) : Calls Tryz.prog 156 #[batVal b] w fun e w' => e = .returned (batVal b) ∧ Below w.heap.size w w' := by
  have H := fun (s : List UInt8) (hs : s.length ≤ 63) (w : World) => hide (strClone_any ⟨s.toArray⟩ w (by simp [ByteArray.size]; omega))
  unfold batVal
  go_enter Tryz.func156, Tryz.ntmps156
  go_wp2_with fail
  refine (H b.ten (by omega) _).out.mono ?_
  rintro e w1 ⟨rfl, hb1⟩
  have hK1 : Blk w1 w.heap.size #[.int .i64 b.dst, encStr b.ten, encStr b.id, encStr b.body] 45 := ((Blk.new w _ _).alloc _).below hb1 (by simp; omega)
  have hR1 : Blk w1 (w.heap.size + 1) #[.int .i64 0, .string ⟨#[]⟩, .string ⟨#[]⟩, .string ⟨#[]⟩] 45 := (Blk.made (by simp) _ _).below hb1 (by simp)
  have hB1 : Below w.heap.size w w1 := (((Below.refl _ _).alloc (Nat.le_refl _) _).alloc (by simp) _).trans (hb1.mono (by simp; omega))
  have k1 : w1.cell? ⟨w.heap.size, 1, none⟩ = some (encStr b.ten) := hK1.cell 1
  have k2 : w1.cell? ⟨w.heap.size, 2, none⟩ = some (encStr b.id) := hK1.cell 2
  have f1 := hK1.frozen 1
  have HK1 := hide hK1
  have HR1 := hide hR1
  have HB1 := hide hB1
  clear hb1 hK1 hR1 hB1
  go_wp2_with fail
  refine (H b.id (by omega) _).out.mono ?_
  rintro e w2 ⟨rfl, hb2⟩
  have hK2 : Blk w2 w.heap.size #[.int .i64 b.dst, encStr b.ten, encStr b.id, encStr b.body] 45 := (HK1.out.set 1 (encStr b.ten)).below hb2 (HK1.out.set 1 (encStr b.ten)).lt
  have hR2 : Blk w2 (w.heap.size + 1) #[.int .i64 0, .string ⟨#[]⟩, .string ⟨#[]⟩, .string ⟨#[]⟩] 45 := (HR1.out.other ⟨w.heap.size, 1, none⟩ (encStr b.ten) (by simp)).below hb2 (HR1.out.other ⟨w.heap.size, 1, none⟩ (encStr b.ten) (by simp)).lt
  have hB2 : Below w.heap.size w w2 := (HB1.out.setCell (p := ⟨w.heap.size, 1, none⟩) (Nat.le_refl _) (encStr b.ten)).trans (hb2.mono (Nat.le_of_lt (HK1.out.set 1 (encStr b.ten)).lt))
  have k2' : w2.cell? ⟨w.heap.size, 2, none⟩ = some (encStr b.id) := hK2.cell 2
  have k3' : w2.cell? ⟨w.heap.size, 3, none⟩ = some (encStr b.body) := hK2.cell 3
  have f2 := hK2.frozen 2
  have HK2 := hide hK2
  have HR2 := hide hR2
  have HB2 := hide hB2
  clear hb2 hK2 hR2 hB2 k1 k2 f1
  go_wp2_with fail
  refine (H b.body (by omega) _).out.mono ?_
  rintro e w3 ⟨rfl, hb3⟩
  have hK3 : Blk w3 w.heap.size #[.int .i64 b.dst, encStr b.ten, encStr b.id, encStr b.body] 45 := (HK2.out.set 2 (encStr b.id)).below hb3 (HK2.out.set 2 (encStr b.id)).lt
  have hR3 : Blk w3 (w.heap.size + 1) #[.int .i64 0, .string ⟨#[]⟩, .string ⟨#[]⟩, .string ⟨#[]⟩] 45 := (HR2.out.other ⟨w.heap.size, 2, none⟩ (encStr b.id) (by simp)).below hb3 (HR2.out.other ⟨w.heap.size, 2, none⟩ (encStr b.id) (by simp)).lt
  have hB3 : Below w.heap.size w w3 := (HB2.out.setCell (p := ⟨w.heap.size, 2, none⟩) (Nat.le_refl _) (encStr b.id)).trans (hb3.mono (Nat.le_of_lt (HK2.out.set 2 (encStr b.id)).lt))
  have q0 : w3.cell? ⟨w.heap.size, 0, none⟩ = some (.int .i64 b.dst) := hK3.cell 0
  have q1 : w3.cell? ⟨w.heap.size, 1, none⟩ = some (encStr b.ten) := hK3.cell 1
  have q2 : w3.cell? ⟨w.heap.size, 2, none⟩ = some (encStr b.id) := hK3.cell 2
  have q3 : w3.cell? ⟨w.heap.size, 3, none⟩ = some (encStr b.body) := hK3.cell 3
  have f3 := hK3.frozen 3
  have r0 : w3.cell? ⟨w.heap.size + 1, 0, none⟩ = some (.int .i64 0) := hR3.cell 0
  have r1 : w3.cell? ⟨w.heap.size + 1, 1, none⟩ = some (.string ⟨#[]⟩) := hR3.cell 1
  have r2 : w3.cell? ⟨w.heap.size + 1, 2, none⟩ = some (.string ⟨#[]⟩) := hR3.cell 2
  have r3 : w3.cell? ⟨w.heap.size + 1, 3, none⟩ = some (.string ⟨#[]⟩) := hR3.cell 3
  have rf := fun o => hR3.frozen o
  have HK3 := hide hK3
  have HR3 := hide hR3
  have HB3 := hide hB3
  clear hb3 hK3 hR3 hB3 k2' k3' f2
  go_wp2_with fail
  have hR4 := ((((HR3.out.other ⟨w.heap.size, 3, none⟩ (encStr b.body) (by simp)).set 0 (.int .i64 b.dst)).set 1 (encStr b.ten)).set 2 (encStr b.id)).set 3 (encStr b.body)
  refine bodyPost_ret (v := batVal b) (results_cell1 Tryz.results156 rfl (run_loadVar_mid _ _ 0 45 [.int .i64 b.dst, encStr b.ten, encStr b.id, encStr b.body] _ (hR4.range 0 _ rfl) Tryz.underlying45 rfl infoBatch)) rfl ⟨rfl, ?_⟩
  exact ((((HB3.out.setCell (by exact Nat.le_refl _) _).setCell (by show w.heap.size ≤ w.heap.size + 1; omega) _).setCell (by show w.heap.size ≤ w.heap.size + 1; omega) _).setCell (by show w.heap.size ≤ w.heap.size + 1; omega) _).setCell (by show w.heap.size ≤ w.heap.size + 1; omega) _

/-- A batch as it is when it was taken. -/
def Bat.fresh (b : Bat) : Bat := { b with st := 1, fl := 0 }

theorem ownsMap_tight {H : Type} {w : World} {P : Program} {k : TypeId} {R : Value → Option (DataW H × List MemPlace)} {b n : Nat} {D : DataW H} (h : w.ownsMap P k R b n D) : w.ownsMap P k R b (Maps.size D) D := by
  obtain ⟨es, clock, hb, F, hs, rfl⟩ := h
  exact ⟨es, clock, hb, F, by simp [Maps.size, length_sorted], rfl⟩

/-- What belongs to an agent's queues. -/
def quP (who : Nat) : Lab → Prop := fun l => l = some (who, .qm) ∨ ∃ d t, l = some (who, .qr d t)
/-- The queues behind a batch's arrival. -/
def Queued (w : World) (L : Labs) (w' : World) (who bq : Nat) (bs : List Bat) : Prop := ∃ L', Step (quP who) L w L' w' ∧ QueuesAt w' L' who bq bs

theorem queued_step {V wE w2 w3 : World} {L : Labs} {who bq ql qc g2 cap2 : Nat} {qa : Option Addr} {bs : List Bat} {b : Bat} {D : DataW Value} (hlo : LaneOk b.dst b.ten) (hd : 0 ≤ b.dst ∧ b.dst < 4)
    (hq : OMapAt V L (some (who, .qm)) Tryz.prog 202 Rq bq (Maps.size D) D) (hsz : Maps.size D ≤ bs.length) (h4 : ∀ d t, LaneOk d t → Maps.has D (laneKey d t) = true → 0 ≤ d ∧ d < 4) (hhas : ∀ d t, LaneOk d t → pend bs d t ≠ [] → Maps.has D (laneKey d t) = true)
    (hrow : ∀ d t, LaneOk d t → RowAt V L (some (who, .qr d t)) 3 1 (hdr D d t) (pend bs d t).length (ints (pend bs d t)))
    (hSE : Step (fun l => l = some (who, .qm)) L V L wE) (hrE : RowAt wE L (some (who, .qr b.dst b.ten)) 3 1 (.slice qa ql qc) ql (ints (pend bs b.dst b.ten))) (hql : ql = (pend bs b.dst b.ten).length)
    (ho2 : w2.ownsRow 0 3 1 (.slice (some ⟨g2, 0, none⟩) (ql + 1) cap2) (ql + 1) (ints (pend bs b.dst b.ten) ++ [.int .i64 bs.length])) (hg2 : wE.grownBy w2 (Value.slice qa ql qc).ownBlock) (hat2' : (Value.slice qa ql qc).ownBlock = some g2 ∨ g2 = wE.heap.size)
    (ho3 : w3.ownsMap Tryz.prog 202 Rq bq (Maps.size D + 1) (D.put (laneKey b.dst b.ten) (.held (.slice (some ⟨g2, 0, none⟩) (ql + 1) cap2)))) (hg3 : w2.grownBy w3 (some bq)) : Queued V L w3 who bq (bs ++ [b.fresh]) := by
  obtain ⟨hr2, hl2⟩ := hrE.appended ho2 (hat2'.imp_right (fun e => Nat.le_of_eq e.symm))
  have hlq : bq < V.heap.size := hq.1.lt
  have hlE : bq < wE.heap.size := Nat.lt_of_lt_of_le hlq hSE.size
  have hl2' : lay L g2 (some (who, .qr b.dst b.ten)) bq = some (who, .qm) := (hl2 bq hlE).trans hq.2
  have s2 : Step (fun l => l = some (who, .qr b.dst b.ten)) L wE (lay L g2 (some (who, .qr b.dst b.ten))) w2 := Step.of_grown hg2 (fun j hj => hrE.2 j hj) hl2
  have s3 : Step (fun l => l = some (who, .qm)) (lay L g2 (some (who, .qr b.dst b.ten))) w2 (lay L g2 (some (who, .qr b.dst b.ten))) w3 := Step.of_grown hg3 (fun j hj => by cases hj; exact hl2') (fun _ _ => rfl)
  have hkl : WideAt.IsKeyLit (laneKey b.dst b.ten) := trivial
  have hpe : ∀ d t, pend (bs ++ [b.fresh]) d t = pend bs d t ++ (if b.dst = d ∧ b.ten = t then [bs.length] else []) := fun d t => by
    rw [pend_snoc]
    congr 1
    show (if decide (b.dst = d) && decide (b.ten = t) && decide ((1 : Int) = 1) then _ else _) = _
    simp
  refine ⟨_, ((hSE.mono (fun l h => Or.inl h)).trans (s2.mono (fun l h => Or.inr ⟨_, _, h⟩))).trans (s3.mono (fun l h => Or.inl h)), _, ⟨ownsMap_tight ho3, hl2'⟩, ?_, ?_, ?_, ?_⟩
  · have := Maps.size_put (D := D) (k := laneKey b.dst b.ten) (hq.1.tidy lawLane) (.held (Value.slice (some ⟨g2, 0, none⟩) (ql + 1) cap2))
    rw [this]
    simp only [List.length_append, List.length_cons, List.length_nil]
    split <;> omega
  · intro d t hl h
    by_cases e : b.dst = d ∧ b.ten = t
    · rw [← e.1]; exact hd
    · rw [Maps.has_put_other (laneKey_ne hl hlo (fun e' => e ⟨e'.1.symm, e'.2.symm⟩))] at h
      exact h4 d t hl h
  · intro d t hl h
    by_cases e : b.dst = d ∧ b.ten = t
    · rw [← e.1, ← e.2]; exact Maps.has_put_same hq.1.isMap hkl _
    · rw [Maps.has_put_other (laneKey_ne hl hlo (fun e' => e ⟨e'.1.symm, e'.2.symm⟩))]
      rw [hpe, if_neg e, List.append_nil] at h
      exact hhas d t hl h
  · intro d t hl
    rw [hpe]
    by_cases e : b.dst = d ∧ b.ten = t
    · obtain ⟨rfl, rfl⟩ := e
      have e1 : hdr (D.put (laneKey b.dst b.ten) (.held (.slice (some ⟨g2, 0, none⟩) (ql + 1) cap2))) b.dst b.ten = .slice (some ⟨g2, 0, none⟩) (ql + 1) cap2 := by
        unfold hdr; rw [Maps.atKey_put_same hq.1.isMap hkl]
      rw [e1]
      have := hr2.keep s3 (by simp)
      simpa [ints, hql] using this
    · have e1 : hdr (D.put (laneKey b.dst b.ten) (.held (.slice (some ⟨g2, 0, none⟩) (ql + 1) cap2))) d t = hdr D d t := by
        unfold hdr; rw [Maps.atKey_put_other (laneKey_ne hl hlo (fun e' => e ⟨e'.1.symm, e'.2.symm⟩))]
      rw [e1, if_neg e, List.append_nil]
      exact (((hrow d t hl).keep hSE (by simp)).keep s2 (fun h => e (by simp at h; exact ⟨h.1.symm, h.2.symm⟩))).keep s3 (by simp)

theorem infoPBatch3 : (Tryz.prog.info? 155).map (fun i => (i.zero, i.size, i.bytes)) = some (some (.agg #[.int .i64 0, .string ⟨#[]⟩, .string ⟨#[]⟩, .string ⟨#[]⟩, .int .i64 0, .int .i64 0]), 6, 72) := by kernel_rfl

theorem agCells_set0 (bq bm : Nat) (tv tv' dv nv rv ov : Value) (M : Ag) (bs : List Bat) : (agCells bq bm tv dv nv rv ov M).setIfInBounds 0 tv' = agCells bq bm tv' dv nv rv ov { M with bs := bs } := by
  apply Array.ext'
  rw [Array.toList_setIfInBounds]
  rfl

/-- An agent's parts beside its queues. -/
def AgRest (w : World) (L : Labs) (who g : Nat) (M : Ag) (bq bm cn : Nat) (tv dv nv rv ov : Value) : Prop :=
  BlkAt w L (some (who, .ag)) g (agCells bq bm tv dv nv rv ov M) 138 ∧ RowAt w L (some (who, .tk)) 155 6 tv M.bs.length (M.bs.flatMap Bat.cells) ∧ RowAt w L (some (who, .dd)) 3 1 dv M.dead.length (ints M.dead) ∧
  RowAt w L (some (who, .nm)) 9 1 nv M.ns.length (M.ns.map encStr) ∧ RowAt w L (some (who, .rt)) 189 2 rv M.rt.length (M.rt.flatMap Ret.cells) ∧ OutsAt w L who M.c.th ov M.os ∧ OMapAt w L (some (who, .cm)) Tryz.prog 9 (plainElem Tryz.prog 3) bm cn M.D
theorem AgAt.rest {w w' : World} {L L' : Labs} {who g : Nat} {M : Ag} {bq bm cn : Nat} {tv dv nv rv ov : Value} (h : AgAt w L who g M bq bm cn tv dv nv rv ov) (s : Step (quP who) L w L' w') : AgRest w' L' who g M bq bm cn tv dv nv rv ov :=
  ⟨h.blk.keep s (by simp [quP]), h.tk.keep s (by simp [quP]), h.dd.keep s (by simp [quP]), h.nm.keep s (by simp [quP]), h.rt.keep s (by simp [quP]), h.ol.keep s (by simp [quP]) (by simp [quP]) (by simp [quP]), h.cm.keep s (by simp [quP])⟩

theorem taken_step {wc w2 : World} {o : Obj} {L : Labs} {who g bq bm cn g2 cap2 : Nat} {tv dv nv rv ov : Value} {M : Ag} {b : Bat} (hA : AgRest wc L who g M bq bm cn tv dv nv rv ov) (hQ : QueuesAt wc L who bq (M.bs ++ [b]))
    (ho2 : w2.ownsRow 0 155 6 (.slice (some ⟨g2, 0, none⟩) (M.bs.length + 1) cap2) (M.bs.length + 1) (M.bs.flatMap Bat.cells ++ b.cells)) (hg2 : (wc.alloc o).drew.grownBy w2 tv.ownBlock) (hat2 : tv.ownBlock = some g2 ∨ g2 = wc.heap.size + 1) :
    ∃ L', AgentAt (w2.setCell ⟨g, 0, none⟩ (.slice (some ⟨g2, 0, none⟩) (M.bs.length + 1) cap2)) L' who g { M with bs := M.bs ++ [b] } ∧ Step (ofP who) L wc L' (w2.setCell ⟨g, 0, none⟩ (.slice (some ⟨g2, 0, none⟩) (M.bs.length + 1) cap2)) := by
  obtain ⟨a1, a2, a3, a4, a5, a6, a7⟩ := hA
  have s1 : Step (fun l => l = some (who, .tk)) L wc L (wc.alloc o).drew := (Step.alloc L wc o).trans (Step.drew L _)
  have s0 : Step (fun _ => False) L wc L (wc.alloc o).drew := (Step.alloc L wc o).trans (Step.drew L _)
  have a2' := a2.keep s0 (fun h => h)
  obtain ⟨hr2, hl2⟩ := a2'.appended ho2 (hat2.imp_right (fun e => by simp; omega))
  have s2 : Step (fun l => l = some (who, .tk)) L wc (lay L g2 (some (who, .tk))) w2 := s1.trans (Step.of_grown hg2 (fun j hj => a2'.2 j hj) hl2)
  have b1 := a1.keep s2 (by simp)
  have s3 : Step (fun l => l = some (who, .ag)) (lay L g2 (some (who, .tk))) w2 (lay L g2 (some (who, .tk))) (w2.setCell ⟨g, 0, none⟩ (.slice (some ⟨g2, 0, none⟩) (M.bs.length + 1) cap2)) := Step.setCell _ _ _ _ b1.2
  refine ⟨lay L g2 (some (who, .tk)), ⟨bq, bm, cn, .slice (some ⟨g2, 0, none⟩) (M.bs.length + 1) cap2, dv, nv, rv, ov, ?_, ?_, ?_, ?_, ?_, ?_, ?_, ?_⟩, (s2.mono (fun l h => ⟨_, h⟩)).trans (s3.mono (fun l h => ⟨_, h⟩))⟩
  · refine ⟨?_, b1.2⟩
    rw [← agCells_set0 bq bm tv]
    exact b1.1.set 0 _
  · have := hr2.keep s3 (by simp)
    simpa [List.flatMap_append] using this
  · exact (hQ.keep s2 (by simp) (by simp)).keep s3 (by simp) (by simp)
  · exact (a3.keep s2 (by simp)).keep s3 (by simp)
  · exact (a4.keep s2 (by simp)).keep s3 (by simp)
  · exact (a5.keep s2 (by simp)).keep s3 (by simp)
  · exact (a6.keep s2 (by simp) (by simp) (by simp)).keep s3 (by simp) (by simp) (by simp)
  · exact (a7.keep s2 (by simp)).keep s3 (by simp)

/-- Labels of blocks that are not there yet say nothing. -/
def clip (L : Labs) (n : Nat) : Labs := fun k => if k < n then L k else none
theorem Step.clipped {p : Lab → Prop} (L : Labs) (w : World) : Step p L w (clip L w.heap.size) w := ⟨rfl, rfl, rfl, Nat.le_refl _, fun _ hk => if_pos hk, fun _ _ _ => rfl⟩
theorem clip_none (L : Labs) {n k : Nat} (h : n ≤ k) : clip L n k = none := if_neg (by omega)

set_option maxRecDepth 100000 in
set_option maxHeartbeats 2000000 in
theorem take_core (L : Labs) (who g : Nat) (M : Ag) (b : Bat) (w : World) (hLn : ∀ k, w.heap.size ≤ k → L k = none) (hA : AgentAt w L who g M) (hb : M.bs.length < 120) (hd : 0 ≤ b.dst ∧ b.dst < 4) (ht : b.ten.length ≤ 16) (hid : b.id.length ≤ 16) (hbo : b.body.length ≤ 63) :
    Calls Tryz.prog 136 #[.pointer (some ⟨g, 0, none⟩), evVal b] w fun e w' => e = .returned (.tuple #[]) ∧ ∃ L', AgentAt w' L' who g { M with bs := M.bs ++ [b.fresh] } ∧ Step (ofP who) L w L' w' := by
  obtain ⟨bq, bm, cn, tv, dv, nv, rv, ov, h⟩ := hA
  obtain ⟨ta, tc, rfl, _⟩ := h.tk.shape
  have HA := hide h
  have hgl := h.blk.1.lt
  have HOb := hide (fun w => ownBatch_any b w ht hid hbo)
  unfold evVal
  unfold batVal at HOb
  clear h
  go_enter Tryz.func136, Tryz.ntmps136
  go_wp2_with fail
  refine (HOb.out _).mono ?_
  rintro e w1 ⟨rfl, hb1⟩
  have HB1 : Hid (Below w.heap.size w w1) := ((Below.refl _ _).alloc (Nat.le_refl _) _).trans (hb1.mono (by simp))
  clear hb1
  go_wp2_with fail
  obtain ⟨i0, hi, hz0, hz1, hz2⟩ := info_parts infoI64
  generalize hV : World.alloc (World.alloc w1 _) _ = V
  have hBV : Below w.heap.size w V := by rw [← hV]; exact (HB1.out.alloc HB1.out.size _).alloc (by simp; exact Nat.le_succ_of_le HB1.out.size) _
  have hN4 : Blk V w1.heap.size #[.int .i64 b.dst, encStr b.ten, encStr b.id, encStr b.body] 45 := by rw [← hV]; exact (Blk.new w1 _ _).alloc _
  have hN5 : Blk V (w1.heap.size + 1) #[.int .i64 b.dst, encStr b.ten] 202 := by rw [← hV]; exact Blk.made (by simp) _ _
  have hAV := HA.out.keep (Step.of_below (p := fun _ => False) (L := L) hBV) (fun _ h => h)
  have c0 : V.cell? ⟨g, 0, none⟩ = some (.slice ta M.bs.length tc) := hAV.blk.1.cell 0
  have c1 : V.cell? ⟨g, 1, none⟩ = some (.map (some bq)) := hAV.blk.1.cell 1
  have l0 : V.cell? ⟨w1.heap.size + 1, 0, none⟩ = some (.int .i64 b.dst) := hN5.cell 0
  have l1 : V.cell? ⟨w1.heap.size + 1, 1, none⟩ = some (encStr b.ten) := hN5.cell 1
  have c0' := fun o => cell?_alloc_old o c0
  have c1' := fun o => cell?_alloc_old o c1
  have l0' := fun o => cell?_alloc_old o l0
  have l1' := fun o => cell?_alloc_old o l1
  obtain ⟨D, hq, hsz, h4, hhas, hrow⟩ := hAV.qs
  have hlo : LaneOk b.dst b.ten := laneOk_small hd.1 hd.2 (by unfold maxLen; omega)
  have hbs : M.bs.length ≤ 120 := by omega
  obtain ⟨qa, ql, qc, st, wE, hrE, hhd, hgE, hback⟩ := entry_queue (w := (V.alloc (.cells #[.int .i64 M.bs.length] 3)).drew) (hq.1.alloc _) (by unfold maxLen; omega) hlo
  have hr0 := hrow b.dst b.ten hlo
  rw [hhd] at hr0
  have hql : ql = (pend M.bs b.dst b.ten).length := by
    obtain ⟨a', c', e', _⟩ := hr0.shape
    simp at e'
    exact e'.2.1
  have hqle : ql ≤ 120 := by rw [hql]; exact Nat.le_trans (pend_le _ _ _) hbs
  rw [← hql] at hr0
  have hSE : Step (fun l => l = some (who, .qm)) L V L wE := (Step.alloc L V _).trans ((Step.drew L _).trans (Step.of_grown hgE (fun j hj => by cases hj; exact hq.2) (fun _ _ => rfl)))
  have hrE0 := hr0.keep hSE (by simp)
  have hnE : wE.heap[V.heap.size]? = some (.cells #[.int .i64 M.bs.length] 3 (0, 0)) := by
    rw [hgE.block V.heap.size (by simp) (fun e => by have := hq.1.lt; simp at e; omega)]
    exact obj_new rfl _
  simp only [laneVal] at hrE
  have HAV := hide hAV
  have HBV := hide hBV
  have HN4 := hide hN4
  have HD := hide (And.intro hq (And.intro hsz (And.intro h4 (And.intro hhas hrow))))
  have HhE := hide hhd
  have HSE := hide hSE
  have Hr0 := hide hr0
  have HrE := hide hrE0
  have Hback := hide hback
  have HnE := hide hnE
  have Hql := hide hql
  have hzE : V.heap.size < wE.heap.size := (Array.getElem?_eq_some_iff.1 hnE).1
  have hqlt := hq.1.lt
  have HbqE : Hid (∀ w2 : World, wE.grownBy w2 (Value.slice qa ql qc).ownBlock → w2.heap[bq]? = wE.heap[bq]?) := fun w2 hg => hg.block bq (by omega) (fun e => by
    have := hrE0.2 bq e.symm
    rw [(hSE.lab bq hqlt), hq.2] at this
    simp at this)
  clear hAV hBV hN4 hN5 hq hsz h4 hhas hrow hhd hgE hback hr0 hql hSE hrE0 hnE hV
  go_upto_region 3 with fail
  go_cut [] (fun wx => Queued V L wx who bq (M.bs ++ [b.fresh]))
  case first =>
   go_region_law (refine step_append_lies _ (by rfl) _ _ _ (by rfl) 0 3 i0 (.int .i64 0) 1 8 Tryz.underlying51 hi hz0 hz1 hz2 rfl (by omega) (.slice qa ql qc) ql _ (by rfl) HrE.out.1 ⟨V.heap.size, 0, none⟩ 1 1 [.int .i64 M.bs.length] (by rfl) (by rfl) (World.news_of_block (cs := #[.int .i64 M.bs.length]) (t := 3) (fr := (0, 0)) HnE.out) (by simp [Value.oneCell']) (by omega) (by unfold maxLen; omega) (by omega) (Nat.zero_le _) wE.heap.size rfl ?_; intro g2 cap2 w2 hown2 hg2 hat2 hlt2; obtain ⟨w3, hrS, hown3, hg3⟩ := Hback.out w2 (some ⟨g2, 0, none⟩) (ql + 1) cap2 (HbqE.out w2 hg2); have Ho2 := hide hown2; have Hg2 := hide hg2; have Hat2 := hide hat2; have Ho3 := hide hown3; have Hg3 := hide hg3; clear hown2 hg2 hat2 hown3 hg3)
   all_goals (go_wp2_with fail; go_meet; exact queued_step hlo hd HD.out.1 HD.out.2.1 HD.out.2.2.1 HD.out.2.2.2.1 HD.out.2.2.2.2 HSE.out HrE.out Hql.out Ho2.out Hg2.out Hat2.out Ho3.out Hg3.out)
  case rest =>
  obtain ⟨L1, hs1, hQ1⟩ := hcut
  have hr := HAV.out.rest hs1
  have hbk : Blk wc w1.heap.size #[.int .i64 b.dst, encStr b.ten, encStr b.id, encStr b.body] 45 := by
    unfold Blk
    rw [hs1.block _ HN4.out.lt (by rw [hLn _ HB1.out.size]; simp [quP])]
    exact HN4.out
  have d0 : wc.cell? ⟨w1.heap.size, 0, none⟩ = some (.int .i64 b.dst) := hbk.cell 0
  have d1 : wc.cell? ⟨w1.heap.size, 1, none⟩ = some (encStr b.ten) := hbk.cell 1
  have d2 : wc.cell? ⟨w1.heap.size, 2, none⟩ = some (encStr b.id) := hbk.cell 2
  have d3 : wc.cell? ⟨w1.heap.size, 3, none⟩ = some (encStr b.body) := hbk.cell 3
  have t0 : wc.cell? ⟨g, 0, none⟩ = some (.slice ta M.bs.length tc) := hr.1.1.cell 0
  have HS1 : Hid (Step (ofP who) L w L1 wc) := (Step.of_below HBV.out).trans (hs1.mono (fun l h => by rcases h with h | ⟨_, _, h⟩ <;> exact ⟨_, h⟩))
  have HR1 := hide hr
  have HQ1 := hide hQ1
  have hgc : g < wc.heap.size := hr.1.1.lt
  have hbl : w1.heap.size < wc.heap.size := hbk.lt
  obtain ⟨i1, hi1, hy0, hy1, hy2⟩ := info_parts infoPBatch3
  clear hs1 hr hbk hQ1 c0 c1 c0' c1' l0 l1 l0' l1' hrE
  go_wp2_with fail
  go_region_law (refine step_append_lies _ (by rfl) _ _ _ (by rfl) 0 155 i1 _ 6 72 Tryz.underlying131 hi1 hy0 hy1 hy2 rfl (by omega) (.slice ta M.bs.length tc) M.bs.length (M.bs.flatMap Bat.cells) (by rfl) ((HR1.out.2.1.1.alloc _).drew) ⟨wc.heap.size, 0, none⟩ 1 1 b.fresh.cells (by rfl) (by rfl) (World.news_of_block (cs := b.fresh.cells.toArray) (t := 155) (fr := (0, 0)) (heap_alloc_new wc _)) (by simp [Value.oneCell', Bat.cells, encStr]) (by omega) (by unfold maxLen; omega) (by omega) (by omega) (wc.heap.size + 1) (by simp) ?_; intro g2 cap2 w2 hown2 hg2 hat2 hlt2; have hBk := Blk.grown (w := World.drew (World.alloc wc _)) (HR1.out.1.1.alloc _) hg2 (fun e => by have := HR1.out.2.1.2 g e.symm; rw [HR1.out.1.2] at this; simp at this); have z0 := hBk.cell 0; have y0 := hBk.frozen 0; simp [agCells] at z0; have HU := hide (taken_step HR1.out HQ1.out hown2 hg2 hat2); clear hBk hown2 hg2 hat2)
  all_goals
    go_wp2_with fail
    first | go_end0 | refine bodyPost_ret (results_none rfl _ _ _) rfl ?_
    obtain ⟨L2, hA2, hS2⟩ := HU.out
    exact ⟨rfl, L2, hA2, HS1.out.trans hS2⟩

theorem take_any (L : Labs) (who g : Nat) (M : Ag) (b : Bat) (w : World) (hA : AgentAt w L who g M) (hb : M.bs.length < 120) (hd : 0 ≤ b.dst ∧ b.dst < 4) (ht : b.ten.length ≤ 16) (hid : b.id.length ≤ 16) (hbo : b.body.length ≤ 63) :
    Calls Tryz.prog 136 #[.pointer (some ⟨g, 0, none⟩), evVal b] w fun e w' => e = .returned (.tuple #[]) ∧ ∃ L', AgentAt w' L' who g { M with bs := M.bs ++ [b.fresh] } ∧ Step (ofP who) L w L' w' := by
  refine (take_core (clip L w.heap.size) who g M b w (fun k hk => clip_none L hk) (hA.keep (Step.clipped (p := fun _ => False) L w) (fun _ h => h)) hb hd ht hid hbo).mono ?_
  rintro e w' ⟨rfl, L', h1, h2⟩
  exact ⟨rfl, L', h1, (Step.clipped L w).trans h2⟩
end Go.Proofs.YtojpjaifhjigfaaGreatDoor

/- play, record: one event happens, and is told in the log. -/
namespace Go.Proofs.YtojpjaifhjigfaaGreatDoor
open Go.RowKit Go.Maps

/-- What one agent's step is: it turned, and nobody else did. -/
def Turned (w : World) (L : Labs) (who g : Nat) (M : Ag) (w' : World) : Prop := ∃ L', AgentAt w' L' who g M ∧ Step (ofP who) L w L' w'

set_option maxRecDepth 100000 in
set_option maxHeartbeats 1000000 in
theorem play_take (L : Labs) (who g : Nat) (M : Ag) (b : Bat) (w : World) (hA : AgentAt w L who g M) (hb : M.bs.length < 120) (hd : 0 ≤ b.dst ∧ b.dst < 4) (ht : b.ten.length ≤ 16) (hid : b.id.length ≤ 16) (hbo : b.body.length ≤ 63) :
    Calls Tryz.prog 109 #[.pointer (some ⟨g, 0, none⟩), evVal b] w fun e w' => e = .returned (.tuple #[]) ∧ Turned w L who g { M with bs := M.bs ++ [b.fresh] } w' := by
  have HA : Hid (∀ w1 : World, Below w.heap.size w w1 → Calls Tryz.prog 136 #[.pointer (some ⟨g, 0, none⟩), evVal b] w1 fun e w' => e = .returned (.tuple #[]) ∧ Turned w L who g { M with bs := M.bs ++ [b.fresh] } w') := fun w1 hb1 => by
    refine (take_any L who g M b w1 (hA.keep (Step.of_below (p := fun _ => False) hb1) (fun _ h => h)) hb hd ht hid hbo).mono ?_
    rintro e w' ⟨rfl, L', h1, h2⟩
    exact ⟨rfl, L', h1, (Step.of_below hb1).trans h2⟩
  clear hA
  unfold evVal at *
  go_enter Tryz.func109, Tryz.ntmps109
  go_wp2_with fail
  have hB2 := fun o1 o2 => ((Below.refl w.heap.size w).alloc (Nat.le_refl _) o1).alloc (show w.heap.size ≤ _ by simp) o2
  go_region_with (first | (go_at_call 136; refine (HA.out _ (by first | exact hB2 _ _ | exact (hB2 _ _).drew)).mono ?_; rintro e w2 ⟨rfl, hT⟩) | fail)
  all_goals
    go_wp2_with fail
    first | go_end0 | refine bodyPost_ret (results_none rfl _ _ _) rfl ?_
    exact ⟨rfl, hT⟩

theorem agCells_set3 (bq bm : Nat) (tv dv nv rv ov : Value) (M : Ag) (l : List UInt8) : (agCells bq bm tv dv nv rv ov M).setIfInBounds 3 (encStr l) = agCells bq bm tv dv nv rv ov { M with log := l } := by
  apply Array.ext'
  rw [Array.toList_setIfInBounds]
  rfl
/-- The log grows: a cell of the agent. -/
theorem logged_step {w : World} {L : Labs} {who g : Nat} {M : Ag} (h : AgentAt w L who g M) (l : List UInt8) : Turned w L who g { M with log := l } (w.setCell ⟨g, 3, none⟩ (encStr l)) := by
  obtain ⟨bq, bm, cn, tv, dv, nv, rv, ov, h⟩ := h
  have s : Step (fun q => q = some (who, .ag)) L w L (w.setCell ⟨g, 3, none⟩ (encStr l)) := Step.setCell _ _ _ _ h.blk.2
  refine ⟨L, ⟨bq, bm, cn, tv, dv, nv, rv, ov, ⟨?_, h.blk.2⟩, h.tk.keep s (by simp), h.qs.keep s (by simp) (by simp), h.dd.keep s (by simp), h.nm.keep s (by simp), h.rt.keep s (by simp), h.ol.keep s (by simp) (by simp) (by simp), h.cm.keep s (by simp)⟩, s.mono (fun l h => ⟨_, h⟩)⟩
  rw [← agCells_set3]
  exact h.blk.1.set 3 _
theorem Turned.keep {w w1 w' : World} {L : Labs} {who g : Nat} {M M' : Ag} (h : ∃ L', AgentAt w1 L' who g M ∧ Step (ofP who) L w L' w1) (k : ∀ L', AgentAt w1 L' who g M → Turned w1 L' who g M' w') : Turned w L who g M' w' := by
  obtain ⟨L1, h1, s1⟩ := h
  obtain ⟨L2, h2, s2⟩ := k L1 h1
  exact ⟨L2, h2, s1.trans s2⟩

theorem agent_frozen {w : World} {L : Labs} {who g : Nat} {M : Ag} (h : AgentAt w L who g M) (o : Nat) : w.frozen? ⟨g, o, none⟩ = false := by
  obtain ⟨bq, bm, cn, tv, dv, nv, rv, ov, h⟩ := h
  exact h.blk.1.frozen o
theorem agent_log {w : World} {L : Labs} {who g : Nat} {M : Ag} (h : AgentAt w L who g M) : w.cell? ⟨g, 3, none⟩ = some (encStr M.log) := by
  obtain ⟨bq, bm, cn, tv, dv, nv, rv, ov, h⟩ := h
  exact h.blk.1.cell 3

theorem run_concat (a b : List UInt8) (w : World) (h : a.length + b.length ≤ 1000000) : (Op.stringOp .add ⟨a.toArray⟩ ⟨b.toArray⟩).run Tryz.prog w = .ok (encStr (a ++ b)) w := by
  have hn : ¬ (((ByteArray.mk a.toArray).size + (ByteArray.mk b.toArray).size : Nat) : Int) > IntKind.i64.max := by
    have h2 : IntKind.i64.max = 9223372036854775807 := rfl
    rw [h2]
    simp only [ByteArray.size, List.size_toArray]
    omega
  have e : ByteArray.mk a.toArray ++ ByteArray.mk b.toArray = ByteArray.mk (a ++ b).toArray := by
    apply ByteArray.ext
    simp
  unfold Op.stringOp
  simp only [if_neg hn, e]
  rfl

set_option maxRecDepth 100000 in
set_option maxHeartbeats 1000000 in
theorem record_take (L : Labs) (who g ge : Nat) (M : Ag) (b : Bat) (w : World) (hA : AgentAt w L who g M) (he : Blk w ge (evCells b).toArray 151) (hge : ¬ ofP who (L ge)) (hb : M.bs.length < 120) (hd : 0 ≤ b.dst ∧ b.dst < 4) (ht : b.ten.length ≤ 16) (hid : b.id.length ≤ 16) (hbo : b.body.length ≤ 63) (hlg : M.log.length ≤ 900000) :
    Calls Tryz.prog 68 #[.pointer (some ⟨g, 0, none⟩), .slice (some ⟨ge, 0, none⟩) 1 1] w fun e w' => e = .returned (.tuple #[]) ∧ Turned w L who g { M with bs := M.bs ++ [b.fresh], log := M.log ++ recBytes b } w' := by
  have HP := hide (fun w1 (h1 : Below w.heap.size w w1) => play_take L who g M b w1 (hA.keep (Step.of_below (p := fun _ => False) h1) (fun _ h => h)) hb hd ht hid hbo)
  have HE := hide he
  unfold evVal at HP
  clear hA
  have hrl : (recBytes b).length ≤ 103 := by have := evBytes_le b ht hid hbo; simp [recBytes]; omega
  have hcat := fun w => run_concat M.log (recBytes b) w (by omega)
  clear hrl
  go_enter Tryz.func68, Tryz.ntmps68
  go_wp2_with fail
  refine wp_loop_rounds 2 ?_
  rw [rounds_succ]
  go_wp2_with (first
    | (refine wpList_load_mid rfl 151 _ rfl ge 0 rfl [.int .i64 0, .int .i64 b.dst, encStr b.ten, encStr b.id, encStr b.body, .int .i64 0, .int .i64 0] _ (HE.out.range 0 _ rfl) Tryz.underlying151 rfl infoEvent ?_)
    | fail)
  refine (HP.out _ ((Below.refl w.heap.size w).alloc (Nat.le_refl _) _)).mono ?_
  rintro e w2 ⟨rfl, L1, hA2, s2⟩
  have HS2 : Hid (Step (ofP who) L w L1 w2) := (Step.alloc L w _).trans s2
  have hlt2 := he.lt
  have hE2 : Blk w2 ge (evCells b).toArray 151 := by
    unfold Blk
    rw [HS2.out.block ge hlt2 hge]
    exact HE.out
  have hg2 : w2.cell? ⟨g, 3, none⟩ = some (encStr M.log) := by obtain ⟨bq, bm, cn, tv, dv, nv, rv, ov, h⟩ := hA2; exact h.blk.1.cell 3
  have hgl : g < w2.heap.size := World.block_lt_of_cell? w2 _ hg2
  have HA2 := hide hA2
  have HE2 := hide hE2
  clear hA2 hE2 s2 he hlt2
  go_wp2_with fail
  rw [rounds_succ]
  go_wp2_with fail
  go_region_with ((go_at_call 110; refine (written_take ge b _ (by exact HE2.out) hd ht hid hbo).mono ?_; rintro e w3 ⟨rfl, hb3'⟩; have hb3 : Below w2.heap.size w2 w3 := ((Below.refl w2.heap.size w2).drew).trans hb3'; have hA3 := HA2.out.keep (Step.of_below (p := fun _ => False) (L := L1) hb3) (fun _ h => h); have HB3 := hide hb3; have f3 : w3.frozen? ⟨g, 3, none⟩ = false := agent_frozen hA3 3; have hc3 : w3.cell? ⟨g, 3, none⟩ = some (encStr M.log) := (agent_log hA3 :); have HA3 := hide hA3; clear hA3 hb3 hb3'))
  all_goals
    go_wp2_with fail
    first | go_end0 | refine bodyPost_ret (results_none rfl _ _ _) rfl ?_
    obtain ⟨L4, hA4, hS4⟩ := logged_step HA3.out (M.log ++ recBytes b)
    exact ⟨rfl, L4, hA4, (HS2.out.trans (Step.of_below HB3.out)).trans hS4⟩
end Go.Proofs.YtojpjaifhjigfaaGreatDoor

/- admit: a batch is taken, told in the log, and may go at once. -/
namespace Go.Proofs.YtojpjaifhjigfaaGreatDoor
open Go.RowKit Go.Maps

theorem agCells_set17 (bq bm : Nat) (tv dv nv rv rv' ov : Value) (M : Ag) (rt : List Ret) : (agCells bq bm tv dv nv rv ov M).setIfInBounds 17 rv' = agCells bq bm tv dv nv rv' ov { M with rt := rt } := by
  apply Array.ext'
  rw [Array.toList_setIfInBounds]
  rfl

theorem retried_step {wc w2 : World} {o : Obj} {L : Labs} {who g bq bm cn g2 cap2 : Nat} {tv dv nv rv ov : Value} {M : Ag} {r : Ret} (hA : AgAt wc L who g M bq bm cn tv dv nv rv ov)
    (ho2 : w2.ownsRow 0 189 2 (.slice (some ⟨g2, 0, none⟩) (M.rt.length + 1) cap2) (M.rt.length + 1) (M.rt.flatMap Ret.cells ++ r.cells)) (hg2 : (wc.alloc o).drew.grownBy w2 rv.ownBlock) (hat2 : rv.ownBlock = some g2 ∨ g2 = wc.heap.size + 1) :
    Turned wc L who g { M with rt := M.rt ++ [r] } (w2.setCell ⟨g, 17, none⟩ (.slice (some ⟨g2, 0, none⟩) (M.rt.length + 1) cap2)) := by
  have s1 : Step (fun l => l = some (who, .rt)) L wc L (wc.alloc o).drew := (Step.alloc L wc o).trans (Step.drew L _)
  have s0 : Step (fun _ => False) L wc L (wc.alloc o).drew := (Step.alloc L wc o).trans (Step.drew L _)
  have a2' := hA.rt.keep s0 (fun h => h)
  obtain ⟨hr2, hl2⟩ := a2'.appended ho2 (hat2.imp_right (fun e => by simp; omega))
  have s2 : Step (fun l => l = some (who, .rt)) L wc (lay L g2 (some (who, .rt))) w2 := s1.trans (Step.of_grown hg2 (fun j hj => a2'.2 j hj) hl2)
  have b1 := hA.blk.keep s2 (by simp)
  have s3 : Step (fun l => l = some (who, .ag)) (lay L g2 (some (who, .rt))) w2 (lay L g2 (some (who, .rt))) (w2.setCell ⟨g, 17, none⟩ (.slice (some ⟨g2, 0, none⟩) (M.rt.length + 1) cap2)) := Step.setCell _ _ _ _ b1.2
  refine ⟨lay L g2 (some (who, .rt)), ⟨bq, bm, cn, tv, dv, nv, .slice (some ⟨g2, 0, none⟩) (M.rt.length + 1) cap2, ov, ?_, ?_, ?_, ?_, ?_, ?_, ?_, ?_⟩, (s2.mono (fun l h => ⟨_, h⟩)).trans (s3.mono (fun l h => ⟨_, h⟩))⟩
  · refine ⟨?_, b1.2⟩
    rw [← agCells_set17 bq bm tv dv nv rv]
    exact b1.1.set 17 _
  · exact (hA.tk.keep s2 (by simp)).keep s3 (by simp)
  · exact (hA.qs.keep s2 (by simp) (by simp)).keep s3 (by simp) (by simp)
  · exact (hA.dd.keep s2 (by simp)).keep s3 (by simp)
  · exact (hA.nm.keep s2 (by simp)).keep s3 (by simp)
  · have := hr2.keep s3 (by simp)
    simpa [List.flatMap_append] using this
  · exact (hA.ol.keep s2 (by simp) (by simp) (by simp)).keep s3 (by simp) (by simp) (by simp)
  · exact (hA.cm.keep s2 (by simp)).keep s3 (by simp)

/-- An agent that has taken one more. -/
def Ag.taken (M : Ag) (b : Bat) : Ag := { M with bs := M.bs ++ [b.fresh], log := M.log ++ recBytes b, rt := M.rt ++ [⟨M.now, M.c.ba⟩] }

set_option maxRecDepth 100000 in
set_option maxHeartbeats 2000000 in
theorem admit_core (L : Labs) (who g : Nat) (M : Ag) (b : Bat) (w : World) (hLn : ∀ k, w.heap.size ≤ k → L k = none) (hA : AgentAt w L who g M) (hb : M.bs.length < 120) (hd : 0 ≤ b.dst ∧ b.dst < 4) (ht : b.ten.length ≤ 16) (hid : b.id.length ≤ 16) (hbo : b.body.length ≤ 63) (hlg : M.log.length ≤ 900000) (hrt : M.rt.length ≤ 120) :
    Calls Tryz.prog 66 #[.pointer (some ⟨g, 0, none⟩), batVal b] w fun e w' => e = .returned (.tuple #[]) ∧ Turned w L who g (M.taken b) w' := by
  have HRec : Hid (∀ (w1 : World) (ge : Nat), Below w.heap.size w w1 → w.heap.size ≤ ge → Blk w1 ge (evCells b).toArray 151 → Calls Tryz.prog 68 #[.pointer (some ⟨g, 0, none⟩), .slice (some ⟨ge, 0, none⟩) 1 1] w1 fun e w' => e = .returned (.tuple #[]) ∧ Turned w L who g { M with bs := M.bs ++ [b.fresh], log := M.log ++ recBytes b } w') := fun w1 ge hb1 hge hE => by
    refine (record_take L who g ge M b w1 (hA.keep (Step.of_below (p := fun _ => False) hb1) (fun _ h => h)) hE (by rw [hLn ge hge]; rintro ⟨q, hq⟩; cases hq) hb hd ht hid hbo hlg).mono ?_
    rintro e w' ⟨rfl, L', h1, h2⟩
    exact ⟨rfl, L', h1, (Step.of_below hb1).trans h2⟩
  have hgl : g < w.heap.size := by obtain ⟨bq, bm, cn, tv, dv, nv, rv, ov, h⟩ := hA; exact h.blk.1.lt
  obtain ⟨i1, hi1, hy0, hy1, hy2⟩ := info_parts infoRetry
  have hB2 := fun o1 o2 => ((Below.refl w.heap.size w).alloc (Nat.le_refl _) o1).alloc (show w.heap.size ≤ _ by simp) o2
  have HE := fun o1 => hide (Blk.made (V := w.alloc o1) (n := w.heap.size + 1) (by simp) (evCells b).toArray 151)
  clear hA
  unfold batVal
  go_enter Tryz.func66, Tryz.ntmps66
  go_upto_region 1 with fail
  go_cut [] (fun wx => Turned w L who g { M with bs := M.bs ++ [b.fresh], log := M.log ++ recBytes b } wx)
  case first =>
    go_region_with ((go_at_call 68; refine (HRec.out _ (w.heap.size + 1) (by first | exact hB2 _ _ | exact (hB2 _ _).drew) (by omega) (by exact (HE _).out)).mono ?_; rintro e w2 ⟨rfl, hT⟩))
    all_goals (go_wp2_with fail; go_meet; exact hT)
  case rest =>
  obtain ⟨L1, ⟨bq, bm, cn, tv, dv, nv, rv, ov, hA1⟩, s1⟩ := hcut
  obtain ⟨ra, rc, rfl, _⟩ := hA1.rt.shape
  have t16 : wc.cell? ⟨g, 16, none⟩ = some (.int .i64 M.now) := hA1.blk.1.cell 16
  have t8 : wc.cell? ⟨g, 8, none⟩ = some (.int .i64 M.c.ba) := hA1.blk.1.cell 8
  have t17 : wc.cell? ⟨g, 17, none⟩ = some (.slice ra M.rt.length rc) := hA1.blk.1.cell 17
  have HA1 := hide hA1
  have HS1 := hide s1
  have hgc : g < wc.heap.size := hA1.blk.1.lt
  clear hA1 s1
  go_wp2_with fail
  go_region_law (refine step_append_lies _ (by rfl) _ _ _ (by rfl) 0 189 i1 _ 2 16 Tryz.underlying135 hi1 hy0 hy1 hy2 rfl (by omega) (.slice ra M.rt.length rc) M.rt.length (M.rt.flatMap Ret.cells) (by rfl) ((HA1.out.rt.1.alloc _).drew) ⟨wc.heap.size, 0, none⟩ 1 1 (Ret.cells ⟨M.now, M.c.ba⟩) (by rfl) (by rfl) (World.news_of_block (cs := (Ret.cells ⟨M.now, M.c.ba⟩).toArray) (t := 189) (fr := (0, 0)) (heap_alloc_new wc _)) (by simp [Value.oneCell', Ret.cells]) (by omega) (by unfold maxLen; omega) (by omega) (by omega) (wc.heap.size + 1) (by simp) ?_; intro g2 cap2 w2 hown2 hg2 hat2 hlt2; have hBk := Blk.grown (w := World.drew (World.alloc wc _)) (HA1.out.blk.1.alloc _) hg2 (fun e => by have := HA1.out.rt.2 g e.symm; rw [HA1.out.blk.2] at this; simp at this); have z0 := hBk.cell 17; have y0 := hBk.frozen 17; simp [agCells] at z0; have HU := hide (retried_step HA1.out hown2 hg2 hat2); clear hBk hown2 hg2 hat2)
  all_goals
    go_wp2_with fail
    first | go_end0 | refine bodyPost_ret (results_none rfl _ _ _) rfl ?_
    obtain ⟨L2, hA2, hS2⟩ := HU.out
    exact ⟨rfl, L2, hA2, HS1.out.trans hS2⟩

theorem admit_any (L : Labs) (who g : Nat) (M : Ag) (b : Bat) (w : World) (hA : AgentAt w L who g M) (hb : M.bs.length < 120) (hd : 0 ≤ b.dst ∧ b.dst < 4) (ht : b.ten.length ≤ 16) (hid : b.id.length ≤ 16) (hbo : b.body.length ≤ 63) (hlg : M.log.length ≤ 900000) (hrt : M.rt.length ≤ 120) :
    Calls Tryz.prog 66 #[.pointer (some ⟨g, 0, none⟩), batVal b] w fun e w' => e = .returned (.tuple #[]) ∧ Turned w L who g (M.taken b) w' := by
  refine (admit_core (clip L w.heap.size) who g M b w (fun k hk => clip_none L hk) (hA.keep (Step.clipped (p := fun _ => False) L w) (fun _ h => h)) hb hd ht hid hbo hlg hrt).mono ?_
  rintro e w' ⟨rfl, L', h1, h2⟩
  exact ⟨rfl, L', h1, (Step.clipped L w).trans h2⟩
end Go.Proofs.YtojpjaifhjigfaaGreatDoor

/- hasDestination, misfit, refusal: why a batch is not taken. -/
namespace Go.Proofs.YtojpjaifhjigfaaGreatDoor
open Go.RowKit Go.Maps

/-- An error by the number that the document gives it. -/
def errV (A : Nat → Addr) : Nat → Value
  | 0 => .nilIface
  | k + 1 => ev A k
def destB (M : Ag) (d : Int) : Bool := decide (0 ≤ d) && decide (d < M.c.d)
/-- Why a batch could not be taken by an agent with nothing pending (0: it could). -/
def Ag.misfit (M : Ag) (b : Bat) : Nat :=
  if destB M b.dst = false then 3 else if Maps.has M.D (.string b.ten) = false then 4 else if inB b.id.length 1 16 = false then 5 else if 63 < b.body.length then 6 else if findId M.bs b.id ≠ -1 then 7 else if 120 ≤ M.bs.length then 8 else 0
/-- Why a batch is refused. -/
def Ag.refusal (M : Ag) (b : Bat) : Nat := if M.misfit b ≠ 0 then M.misfit b else if M.c.q ≤ waits M.bs b.ten then 9 else 0

set_option maxHeartbeats 400000 in
theorem hasDest_any (L : Labs) (who g : Nat) (M : Ag) (d : Int) (w : World) (h : AgentAt w L who g M) : Calls Tryz.prog 71 #[.pointer (some ⟨g, 0, none⟩), .int .i64 d] w fun e w' => e = .returned (.bool (destB M d)) ∧ w' = w := by
  have c4 : w.cell? ⟨g, 4, none⟩ = some (.int .i64 M.c.d) := by obtain ⟨bq, bm, cn, tv, dv, nv, rv, ov, h⟩ := h; exact h.blk.1.cell 4
  clear h
  unfold destB
  by_cases h0 : 0 ≤ d
  · go_enter Tryz.func71, Tryz.ntmps71
    go_wp2
    go_ret
    simp [h0]
  · go_enter Tryz.func71, Tryz.ntmps71
    go_wp2
    go_ret
    simp
    omega

set_option maxRecDepth 100000 in
set_option maxHeartbeats 2000000 in
theorem misfit_any (A : Nat → Addr) (L : Labs) (who g : Nat) (M : Ag) (b : Bat) (w : World) (hS : Sents.Holds w 260 gl 11 A) (h : AgentAt w L who g M) (hb : M.bs.length ≤ 120) (ht : b.ten.length ≤ maxLen) :
    Calls Tryz.prog 108 #[.pointer (some ⟨g, 0, none⟩), batVal b] w fun e w' => e = .returned (errV A (M.misfit b)) ∧ Below w.heap.size w w' := by
  have HA := hide h
  have HS := hide hS
  obtain ⟨bq, bm, cn, tv, dv, nv, rv, ov, h⟩ := h
  have c5 : w.cell? ⟨g, 5, none⟩ = some (.map (some bm)) := h.blk.1.cell 5
  have hgl := h.blk.1.lt
  have hlook : ∀ w' : World, Below w.heap.size w w' → ∃ v, (Instr.lookup 22 (.map (some bm)) (encStr b.ten) true).run Tryz.prog w' = .ok (.tuple #[v, .bool (Maps.has M.D (.string b.ten))]) w' := fun w' hb' => by
    obtain ⟨v, ps, h1, _⟩ := (ownsMap_of_block h.cm.1 (hb'.block bm h.cm.1.lt)).look_ok lawS Tryz.underlying22 (zeroInt w') (plainElem_int Tryz.underlying3 (by decide)) (keyStr ht)
    exact ⟨v, h1⟩
  obtain ⟨v0, hl0⟩ := hlook ((w.alloc (.cells #[.int .i64 b.dst, encStr b.ten, encStr b.id, encStr b.body] 45)).drew) (((Below.refl _ _).alloc (Nat.le_refl _) _).drew)
  clear h hS hlook
  unfold batVal
  go_enter Tryz.func108, Tryz.ntmps108
  go_upto_region 1 with fail
  go_cut [6] (fun s6 wx => s6 = .bool (Maps.has M.D (.string b.ten)) ∧ wx = (w.alloc (.cells #[.int .i64 b.dst, encStr b.ten, encStr b.id, encStr b.body] 45)).drew)
  case first =>
    go_region
    all_goals (go_wp2_with fail; go_meet; exact ⟨rfl, rfl⟩)
  case rest =>
  obtain ⟨rfl, rfl⟩ := hcut
  clear hl0
  go_wp2_with fail
  generalize hV : World.drew (World.alloc (World.alloc w _) _) = V
  have hBV : Below w.heap.size w V := by rw [← hV]; exact (((Below.refl _ _).alloc (Nat.le_refl _) _).alloc (by simp) _).drew
  have hNV : Blk V w.heap.size #[.int .i64 b.dst, encStr b.ten, encStr b.id, encStr b.body] 45 := by rw [← hV]; exact (Blk.new w _ _).alloc _
  have hMV : Blk V (w.heap.size + 1) #[.int .i64 b.id.length, .int .i64 1, .int .i64 16] 130 := by rw [← hV]; exact Blk.made (by simp) _ _
  have hAV := HA.out.keep (Step.of_below (p := fun _ => False) (L := L) hBV) (fun _ h => h)
  have m0 : V.cell? ⟨w.heap.size + 1, 0, none⟩ = some (.int .i64 b.id.length) := hMV.cell 0
  have m1 : V.cell? ⟨w.heap.size + 1, 1, none⟩ = some (.int .i64 1) := hMV.cell 1
  have m2 : V.cell? ⟨w.heap.size + 1, 2, none⟩ = some (.int .i64 16) := hMV.cell 2
  have q2 := (HS.out.below hBV).cell 2 (by decide)
  have q3 := (HS.out.below hBV).cell 3 (by decide)
  simp only [gl, List.getD_cons_zero, List.getD_cons_succ] at q2 q3
  have HAV := hide hAV
  have HNV := hide hNV
  have HBV := hide hBV
  clear hV hAV hNV hBV hMV c5
  refine (hasDest_any L who g M b.dst V HAV.out).mono ?_
  rintro e w' ⟨rfl, rfl⟩
  cases hd : destB M b.dst
  · go_wp2_with fail
    go_ret
    exact ⟨by simp [Ag.misfit, hd, errV, ev], HBV.out⟩
  · cases hh : Maps.has M.D (.string b.ten)
    · go_wp2_with fail
      go_ret
      exact ⟨by simp [Ag.misfit, hd, hh, errV, ev], HBV.out⟩
    · clear q2 q3
      go_wp2_with fail
      refine (holds_any b.id.length 1 16 _).mono ?_
      rintro e w2 ⟨rfl, hb2⟩
      have hB2 : Below w.heap.size w w2 := HBV.out.trans (hb2.mono HBV.out.size)
      have q4 := (HS.out.below hB2).cell 4 (by decide)
      have q5 := (HS.out.below hB2).cell 5 (by decide)
      simp only [gl, List.getD_cons_zero, List.getD_cons_succ] at q4 q5
      have hN2 : Blk w2 w.heap.size #[.int .i64 b.dst, encStr b.ten, encStr b.id, encStr b.body] 45 := HNV.out.below hb2 HNV.out.lt
      have n2 : w2.cell? ⟨w.heap.size, 2, none⟩ = some (encStr b.id) := hN2.cell 2
      have n3 : w2.cell? ⟨w.heap.size, 3, none⟩ = some (encStr b.body) := hN2.cell 3
      have HB2 := hide hB2
      have HN2 := hide hN2
      have hlt2 := hN2.lt
      clear hb2 hB2 hN2 m0 m1 m2
      cases hi : inB b.id.length 1 16
      · go_wp2_with fail
        go_ret
        exact ⟨by simp [Ag.misfit, hd, hh, hi, errV, ev], HB2.out⟩
      · by_cases h6 : 63 < b.body.length
        · have h6I : (63 : Int) < (b.body.length : Int) := by omega
          go_wp2_with fail
          go_ret
          exact ⟨by simp [Ag.misfit, hd, hh, hi, h6, errV, ev], HB2.out⟩
        · have h6I : ¬ (63 : Int) < (b.body.length : Int) := by omega
          clear q4 q5
          have HP : Hid (∀ w1 : World, Below w.heap.size w w1 → Calls Tryz.prog 75 #[.pointer (some ⟨g, 0, none⟩), encStr b.id] w1 fun e w' => e = .returned (.int .i64 (findId M.bs b.id)) ∧ Below w1.heap.size w1 w') := fun w1 h1 => pPlace_any L who g M b.id w1 (HA.out.keep (Step.of_below (p := fun _ => False) (L := L) h1) (fun _ h => h)) hb
          generalize hf : findId M.bs b.id = f at *
          have Hf := hide hf
          by_cases h7 : f = -1
          · subst h7
            obtain ⟨k, hk⟩ : ∃ k : Nat, k = M.bs.length := ⟨_, rfl⟩
            have Hk := hide hk
            clear hf
            go_wp2_with fail
            go_region_with ((go_at_call 75; refine (HP.out _ (by exact HB2.out.drew)).mono ?_; rintro e w3 ⟨rfl, hb3⟩; have hB3 : Below w.heap.size w w3 := HB2.out.drew.trans (hb3.mono HB2.out.size); have HB3 := hide hB3; have HS3 := hide (HS.out.below hB3); have HA3 := hide (HA.out.keep (Step.of_below (p := fun _ => False) (L := L) hB3) (fun _ h => h)); clear hb3 hB3))
            all_goals
              have q7 := HS3.out.cell 7 (by decide)
              simp only [gl, List.getD_cons_zero, List.getD_cons_succ] at q7
              obtain ⟨bq', bm', cn', tv', dv', nv', rv', ov', h3⟩ := HA3.out
              obtain ⟨ta, tc, rfl, _⟩ := h3.tk.shape
              have z0 : w3.cell? ⟨g, 0, none⟩ = some (.slice ta M.bs.length tc) := h3.blk.1.cell 0
              clear h3
              by_cases h8 : 120 ≤ M.bs.length
              · have h8I : (120 : Int) ≤ (M.bs.length : Int) := by omega
                go_wp2_with fail
                go_ret
                exact ⟨by simp [Ag.misfit, hd, hh, hi, h6, Hf.out, h8, errV, ev], HB3.out⟩
              · have h8I : ¬ (120 : Int) ≤ (M.bs.length : Int) := by omega
                go_wp2_with fail
                go_ret
                exact ⟨by simp [Ag.misfit, hd, hh, hi, h6, Hf.out, h8, errV], HB3.out⟩
          · clear hf
            go_wp2_with fail
            go_region_with ((go_at_call 75; refine (HP.out _ (by exact HB2.out.drew)).mono ?_; rintro e w3 ⟨rfl, hb3⟩; have hB3 : Below w.heap.size w w3 := HB2.out.drew.trans (hb3.mono HB2.out.size); have HB3 := hide hB3; have HS3 := hide (HS.out.below hB3); have HA3 := hide (HA.out.keep (Step.of_below (p := fun _ => False) (L := L) hB3) (fun _ h => h)); clear hb3 hB3))
            all_goals
              have q6 := HS3.out.cell 6 (by decide)
              simp only [gl, List.getD_cons_zero, List.getD_cons_succ] at q6
              go_wp2_with fail
              go_ret
              exact ⟨by simp [Ag.misfit, hd, hh, hi, h6, Hf.out, h7, errV, ev], HB3.out⟩
end Go.Proofs.YtojpjaifhjigfaaGreatDoor

/- refusal, Submit: the program's side. -/
namespace Go.Proofs.YtojpjaifhjigfaaGreatDoor
open Go.RowKit Go.Maps

theorem errV_pos (A : Nat → Addr) {n : Nat} (h : n ≠ 0) : ∃ k, n = k + 1 ∧ errV A n = ev A k := by
  obtain ⟨k, rfl⟩ := Nat.exists_eq_succ_of_ne_zero h
  exact ⟨k, rfl, rfl⟩

set_option maxRecDepth 100000 in
set_option maxHeartbeats 2000000 in
theorem refusal_any (A : Nat → Addr) (L : Labs) (who g : Nat) (M : Ag) (b : Bat) (w : World) (hS : Sents.Holds w 260 gl 11 A) (h : AgentAt w L who g M) (hb : M.bs.length ≤ 120) (ht : b.ten.length ≤ maxLen) :
    Calls Tryz.prog 65 #[.pointer (some ⟨g, 0, none⟩), batVal b] w fun e w' => e = .returned (errV A (M.refusal b)) ∧ Below w.heap.size w w' := by
  have HM : Hid (∀ w1, Below w.heap.size w w1 → Calls Tryz.prog 108 #[.pointer (some ⟨g, 0, none⟩), batVal b] w1 fun e w' => e = .returned (errV A (M.misfit b)) ∧ Below w1.heap.size w1 w') := fun w1 h1 => misfit_any A L who g M b w1 (hS.below h1) (h.keep (Step.of_below (p := fun _ => False) (L := L) h1) (fun _ h => h)) hb ht
  have HW : Hid (∀ w1, Below w.heap.size w w1 → Calls Tryz.prog 77 #[.pointer (some ⟨g, 0, none⟩)] w1 fun e w' => NewCounts w1 w' (waits M.bs) e) := fun w1 h1 => pWaiting_any L who g M w1 (h.keep (Step.of_below (p := fun _ => False) (L := L) h1) (fun _ h => h)) hb
  have HS := hide hS
  have c6 : w.cell? ⟨g, 6, none⟩ = some (.int .i64 M.c.q) := by obtain ⟨bq, bm, cn, tv, dv, nv, rv, ov, h⟩ := h; exact h.blk.1.cell 6
  have hgl : g < w.heap.size := World.block_lt_of_cell? w _ c6
  have hkS := keyStr ht
  have HKS := hide hkS
  have hB0 := fun o => (Below.refl w.heap.size w).alloc (Nat.le_refl _) o
  have hB00 := hide hB0
  unfold batVal at *
  clear h hS hkS hB0
  go_enter Tryz.func65, Tryz.ntmps65
  go_wp2_with fail
  refine (HM.out _ (hB00.out _)).mono ?_
  rintro e w1 ⟨rfl, hb1⟩
  have hB1 : Below w.heap.size w w1 := (hB00.out _).trans (hb1.mono (by simp))
  have hN1 : Blk w1 w.heap.size #[.int .i64 b.dst, encStr b.ten, encStr b.id, encStr b.body] 45 := (Blk.new w _ _).below hb1 (by simp)
  have n1 : w1.cell? ⟨w.heap.size, 1, none⟩ = some (encStr b.ten) := hN1.cell 1
  have d6 : w1.cell? ⟨g, 6, none⟩ = some (.int .i64 M.c.q) := (hB1.cell (p := ⟨g, 6, none⟩) hgl).trans c6
  have q8 := (HS.out.below hB1).cell 8 (by decide)
  simp only [gl, List.getD_cons_zero, List.getD_cons_succ] at q8
  have hgl1 : g < w1.heap.size := Nat.lt_of_lt_of_le hgl hB1.size
  have hnl := hN1.lt
  have HB1 := hide hB1
  have HN1 := hide hN1
  clear hb1 hB1 hN1 c6 hgl
  by_cases hm : M.misfit b = 0
  · have HM0 := hide hm
    rw [hm]
    simp only [errV]
    clear hm
    by_cases h9 : M.c.q ≤ (waits M.bs b.ten : Int)
    · have H9 := hide h9
      go_wp2_with fail
      go_region_with ((go_at_call 77; refine (HW.out _ (by exact HB1.out.drew)).mono ?_; rintro e w2 ⟨bw, nw, D, rfl, hbw, hO, hnw, hC, hb2⟩; have hB2 := HB1.out.drew.trans (hb2.mono HB1.out.size); have n1' : w2.cell? ⟨w.heap.size, 1, none⟩ = some (encStr b.ten) := (hb2.cell (p := ⟨w.heap.size, 1, none⟩) hnl).trans n1; have d6' : w2.cell? ⟨g, 6, none⟩ = some (.int .i64 M.c.q) := (hb2.cell (p := ⟨g, 6, none⟩) hgl1).trans d6; obtain ⟨c, hlk, hat, _⟩ := World.ownsMap.lookup_int hO lawS Tryz.underlying22 Tryz.underlying3 (zeroInt _) HKS.out; obtain rfl := hC.look ht hat; have HB2 := hide hB2; have HS2 := hide (HS.out.below hB2); clear hbw hO hnw hC hb2 hB2 hat))
      all_goals
        have q8' := HS2.out.cell 8 (by decide)
        simp only [gl, List.getD_cons_zero, List.getD_cons_succ] at q8'
        go_wp2_with fail
        go_ret
        exact ⟨by simp [Ag.refusal, HM0.out, if_pos H9.out, errV, ev], HB2.out⟩
    · have H9 := hide h9
      go_wp2_with fail
      go_region_with ((go_at_call 77; refine (HW.out _ (by exact HB1.out.drew)).mono ?_; rintro e w2 ⟨bw, nw, D, rfl, hbw, hO, hnw, hC, hb2⟩; have hB2 := HB1.out.drew.trans (hb2.mono HB1.out.size); have n1' : w2.cell? ⟨w.heap.size, 1, none⟩ = some (encStr b.ten) := (hb2.cell (p := ⟨w.heap.size, 1, none⟩) hnl).trans n1; have d6' : w2.cell? ⟨g, 6, none⟩ = some (.int .i64 M.c.q) := (hb2.cell (p := ⟨g, 6, none⟩) hgl1).trans d6; obtain ⟨c, hlk, hat, _⟩ := World.ownsMap.lookup_int hO lawS Tryz.underlying22 Tryz.underlying3 (zeroInt _) HKS.out; obtain rfl := hC.look ht hat; have HB2 := hide hB2; have HS2 := hide (HS.out.below hB2); clear hbw hO hnw hC hb2 hB2 hat))
      all_goals
        go_wp2_with fail
        go_ret
        exact ⟨by simp [Ag.refusal, HM0.out, if_neg (Int.not_le.2 H9.out), errV], HB2.out⟩
  · obtain ⟨k, hk, hv⟩ := errV_pos A hm
    rw [hv]
    have Hk := hide hk
    clear hv hm hk
    unfold ev
    go_wp2_with fail
    go_ret
    exact ⟨by simp [Ag.refusal, Hk.out, errV, ev], HB1.out⟩

/-- An agent behind a Submit. -/
def Ag.submitted (M : Ag) (b : Bat) : Ag := if M.refusal b = 0 then M.taken b else M

theorem refusal_zero {M : Ag} {b : Bat} (h : M.refusal b = 0) : destB M b.dst = true ∧ Maps.has M.D (.string b.ten) = true ∧ inB b.id.length 1 16 = true ∧ b.body.length ≤ 63 ∧ findId M.bs b.id = -1 ∧ M.bs.length < 120 ∧ (waits M.bs b.ten : Int) < M.c.q := by
  unfold Ag.refusal at h
  by_cases h1 : M.misfit b = 0
  · rw [if_neg (by simpa using h1)] at h
    have h9 : (waits M.bs b.ten : Int) < M.c.q := by
      by_cases h9 : M.c.q ≤ (waits M.bs b.ten : Int)
      · rw [if_pos h9] at h; cases h
      · omega
    unfold Ag.misfit at h1
    by_cases a1 : destB M b.dst = false
    · rw [if_pos a1] at h1; cases h1
    rw [if_neg a1] at h1
    by_cases a2 : Maps.has M.D (.string b.ten) = false
    · rw [if_pos a2] at h1; cases h1
    rw [if_neg a2] at h1
    by_cases a3 : inB b.id.length 1 16 = false
    · rw [if_pos a3] at h1; cases h1
    rw [if_neg a3] at h1
    by_cases a4 : 63 < b.body.length
    · rw [if_pos a4] at h1; cases h1
    rw [if_neg a4] at h1
    by_cases a5 : findId M.bs b.id ≠ -1
    · rw [if_pos a5] at h1; cases h1
    rw [if_neg a5] at h1
    by_cases a6 : 120 ≤ M.bs.length
    · rw [if_pos a6] at h1; cases h1
    exact ⟨by simpa using a1, by simpa using a2, by simpa using a3, by omega, by simpa using a5, by omega, h9⟩
  · rw [if_pos h1] at h
    exact absurd h h1

set_option maxRecDepth 100000 in
set_option maxHeartbeats 2000000 in
theorem submit_any (A : Nat → Addr) (L : Labs) (who g : Nat) (M : Ag) (b : Bat) (w : World) (hS : Sents.Holds w 260 gl 11 A) (h : AgentAt w L who g M) (hb : M.bs.length ≤ 120) (ht : b.ten.length ≤ maxLen) (hd4 : M.c.d ≤ 4) (hn16 : ∀ x, Maps.has M.D (.string x) = true → x.length ≤ 16) (hlg : M.log.length ≤ 900000) (hrt : M.rt.length ≤ 120) :
    Calls Tryz.prog 27 #[.pointer (some ⟨g, 0, none⟩), batVal b] w fun e w' => e = .returned (errV A (M.refusal b)) ∧ Turned w L who g (M.submitted b) w' := by
  have hB0 := fun o => (Below.refl w.heap.size w).alloc (Nat.le_refl _) o
  have HR : Hid (∀ w1, Below w.heap.size w w1 → Calls Tryz.prog 65 #[.pointer (some ⟨g, 0, none⟩), batVal b] w1 fun e w' => e = .returned (errV A (M.refusal b)) ∧ Below w1.heap.size w1 w') := fun w1 h1 => refusal_any A L who g M b w1 (hS.below h1) (h.keep (Step.of_below (p := fun _ => False) (L := L) h1) (fun _ h => h)) hb ht
  have HA := hide h
  have hB00 := hide hB0
  unfold batVal at *
  clear h hS hB0
  go_enter Tryz.func27, Tryz.ntmps27
  go_wp2_with fail
  refine (HR.out _ (hB00.out _)).mono ?_
  rintro e w1 ⟨rfl, hb1⟩
  have hB1 : Below w.heap.size w w1 := (hB00.out _).trans (hb1.mono (by simp))
  have hN1 : Blk w1 w.heap.size #[.int .i64 b.dst, encStr b.ten, encStr b.id, encStr b.body] 45 := (Blk.new w _ _).below hb1 (by simp)
  have n0 : w1.cell? ⟨w.heap.size, 0, none⟩ = some (.int .i64 b.dst) := hN1.cell 0
  have n1 : w1.cell? ⟨w.heap.size, 1, none⟩ = some (encStr b.ten) := hN1.cell 1
  have n2 : w1.cell? ⟨w.heap.size, 2, none⟩ = some (encStr b.id) := hN1.cell 2
  have n3 : w1.cell? ⟨w.heap.size, 3, none⟩ = some (encStr b.body) := hN1.cell 3
  have hnl := hN1.lt
  have HB1 := hide hB1
  clear hb1 hB1 hN1
  by_cases hr : M.refusal b = 0
  · obtain ⟨r1, r2, r3, r4, r5, r6, r7⟩ := refusal_zero hr
    have hdd : 0 ≤ b.dst ∧ b.dst < 4 := by simp [destB] at r1; omega
    have hid : b.id.length ≤ 16 := by simp [inB] at r3; omega
    have HAd := hide (admit_any L who g M b w1 (HA.out.keep (Step.of_below (p := fun _ => False) (L := L) HB1.out) (fun _ h => h)) r6 hdd (hn16 _ r2) hid r4 hlg hrt)
    have HE : Hid (M.submitted b = M.taken b) := if_pos hr
    have HR0 := hide hr
    rw [hr]
    simp only [errV]
    unfold batVal at HAd
    clear r1 r2 r3 r4 r5 r6 r7 hr
    go_wp2_with fail
    refine HAd.out.mono ?_
    rintro e w2 ⟨rfl, L2, hA2, hS2⟩
    have HT : Hid (Turned w L who g (M.taken b) w2) := ⟨L2, hA2, (Step.of_below HB1.out).trans hS2⟩
    clear hA2 hS2
    go_wp2_with fail
    go_ret
    exact ⟨by rw [HR0.out]; rfl, by rw [HE.out]; exact HT.out⟩
  · obtain ⟨k, hk, hv⟩ := errV_pos A hr
    have HE : Hid (M.submitted b = M) := if_neg hr
    have HV := hide hv
    rw [hv]
    clear hv hr hk
    unfold ev
    go_wp2_with fail
    go_ret
    exact ⟨by rw [HV.out]; rfl, L, by rw [HE.out]; exact HA.out.keep (Step.of_below (p := fun _ => False) HB1.out) (fun _ h => h), Step.of_below HB1.out⟩
end Go.Proofs.YtojpjaifhjigfaaGreatDoor
