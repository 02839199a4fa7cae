/- take: a batch is laid at the end of its queue. -/
import Derived.Test.YtojpjaifhjigfaaGreatDoorTakeLaws
import Derived.Test.YtojpjaifhjigfaaGreatDoorLawWorld
import Derived.Laws.ResultCell
namespace Go.Proofs.YtojpjaifhjigfaaGreatDoor
open Go.RowKit Go.Maps

def batVal (b : Bat) : Value := .agg #[.int .i64 b.dst, encStr b.ten, encStr b.id, encStr b.body]
theorem infoBatch : (Tryz.prog.info? 45).map (·.size) = some 4 := by kernel_rfl

set_option maxRecDepth 100000 in
set_option maxHeartbeats 1000000 in
theorem ownBatch_any (b : Bat) (w : World) (ht : b.ten.length ≤ 16) (hid : b.id.length ≤ 16) (hbo : b.body.length ≤ 63) : Calls Tryz.prog 156 #[batVal b] w fun e w' => e = .returned (batVal b) ∧ Below w.heap.size w w' := by
  have H := fun (s : List UInt8) (hs : s.length ≤ 63) (w : World) => hide (strClone_any ⟨s.toArray⟩ w (by simp [ByteArray.size]; omega))
  unfold batVal
  go_enter Tryz.func156, Tryz.ntmps156
  go_wp2_with fail
  refine (H b.ten (by omega) _).out.mono ?_
  rintro e w1 ⟨rfl, hb1⟩
  have hK1 : Blk w1 w.heap.size #[.int .i64 b.dst, encStr b.ten, encStr b.id, encStr b.body] 45 := ((Blk.new w _ _).alloc _).below hb1 (by simp; omega)
  have hR1 : Blk w1 (w.heap.size + 1) #[.int .i64 0, .string ⟨#[]⟩, .string ⟨#[]⟩, .string ⟨#[]⟩] 45 := (Blk.made (by simp) _ _).below hb1 (by simp)
  have hB1 : Below w.heap.size w w1 := (((Below.refl _ _).alloc (Nat.le_refl _) _).alloc (by simp) _).trans (hb1.mono (by simp; omega))
  have k1 : w1.cell? ⟨w.heap.size, 1, none⟩ = some (encStr b.ten) := hK1.cell 1
  have k2 : w1.cell? ⟨w.heap.size, 2, none⟩ = some (encStr b.id) := hK1.cell 2
  have f1 := hK1.frozen 1
  have HK1 := hide hK1
  have HR1 := hide hR1
  have HB1 := hide hB1
  clear hb1 hK1 hR1 hB1
  go_wp2_with fail
  refine (H b.id (by omega) _).out.mono ?_
  rintro e w2 ⟨rfl, hb2⟩
  have hK2 : Blk w2 w.heap.size #[.int .i64 b.dst, encStr b.ten, encStr b.id, encStr b.body] 45 := (HK1.out.set 1 (encStr b.ten)).below hb2 (HK1.out.set 1 (encStr b.ten)).lt
  have hR2 : Blk w2 (w.heap.size + 1) #[.int .i64 0, .string ⟨#[]⟩, .string ⟨#[]⟩, .string ⟨#[]⟩] 45 := (HR1.out.other ⟨w.heap.size, 1, none⟩ (encStr b.ten) (by simp)).below hb2 (HR1.out.other ⟨w.heap.size, 1, none⟩ (encStr b.ten) (by simp)).lt
  have hB2 : Below w.heap.size w w2 := (HB1.out.setCell (p := ⟨w.heap.size, 1, none⟩) (Nat.le_refl _) (encStr b.ten)).trans (hb2.mono (Nat.le_of_lt (HK1.out.set 1 (encStr b.ten)).lt))
  have k2' : w2.cell? ⟨w.heap.size, 2, none⟩ = some (encStr b.id) := hK2.cell 2
  have k3' : w2.cell? ⟨w.heap.size, 3, none⟩ = some (encStr b.body) := hK2.cell 3
  have f2 := hK2.frozen 2
  have HK2 := hide hK2
  have HR2 := hide hR2
  have HB2 := hide hB2
  clear hb2 hK2 hR2 hB2 k1 k2 f1
  go_wp2_with fail
  refine (H b.body (by omega) _).out.mono ?_
  rintro e w3 ⟨rfl, hb3⟩
  have hK3 : Blk w3 w.heap.size #[.int .i64 b.dst, encStr b.ten, encStr b.id, encStr b.body] 45 := (HK2.out.set 2 (encStr b.id)).below hb3 (HK2.out.set 2 (encStr b.id)).lt
  have hR3 : Blk w3 (w.heap.size + 1) #[.int .i64 0, .string ⟨#[]⟩, .string ⟨#[]⟩, .string ⟨#[]⟩] 45 := (HR2.out.other ⟨w.heap.size, 2, none⟩ (encStr b.id) (by simp)).below hb3 (HR2.out.other ⟨w.heap.size, 2, none⟩ (encStr b.id) (by simp)).lt
  have hB3 : Below w.heap.size w w3 := (HB2.out.setCell (p := ⟨w.heap.size, 2, none⟩) (Nat.le_refl _) (encStr b.id)).trans (hb3.mono (Nat.le_of_lt (HK2.out.set 2 (encStr b.id)).lt))
  have q0 : w3.cell? ⟨w.heap.size, 0, none⟩ = some (.int .i64 b.dst) := hK3.cell 0
  have q1 : w3.cell? ⟨w.heap.size, 1, none⟩ = some (encStr b.ten) := hK3.cell 1
  have q2 : w3.cell? ⟨w.heap.size, 2, none⟩ = some (encStr b.id) := hK3.cell 2
  have q3 : w3.cell? ⟨w.heap.size, 3, none⟩ = some (encStr b.body) := hK3.cell 3
  have f3 := hK3.frozen 3
  have r0 : w3.cell? ⟨w.heap.size + 1, 0, none⟩ = some (.int .i64 0) := hR3.cell 0
  have r1 : w3.cell? ⟨w.heap.size + 1, 1, none⟩ = some (.string ⟨#[]⟩) := hR3.cell 1
  have r2 : w3.cell? ⟨w.heap.size + 1, 2, none⟩ = some (.string ⟨#[]⟩) := hR3.cell 2
  have r3 : w3.cell? ⟨w.heap.size + 1, 3, none⟩ = some (.string ⟨#[]⟩) := hR3.cell 3
  have rf := fun o => hR3.frozen o
  have HK3 := hide hK3
  have HR3 := hide hR3
  have HB3 := hide hB3
  clear hb3 hK3 hR3 hB3 k2' k3' f2
  go_wp2_with fail
  have hR4 := ((((HR3.out.other ⟨w.heap.size, 3, none⟩ (encStr b.body) (by simp)).set 0 (.int .i64 b.dst)).set 1 (encStr b.ten)).set 2 (encStr b.id)).set 3 (encStr b.body)
  refine bodyPost_ret (v := batVal b) (results_cell1 Tryz.results156 rfl (run_loadVar_mid _ _ 0 45 [.int .i64 b.dst, encStr b.ten, encStr b.id, encStr b.body] _ (hR4.range 0 _ rfl) Tryz.underlying45 rfl infoBatch)) rfl ⟨rfl, ?_⟩
  exact ((((HB3.out.setCell (by exact Nat.le_refl _) _).setCell (by show w.heap.size ≤ w.heap.size + 1; omega) _).setCell (by show w.heap.size ≤ w.heap.size + 1; omega) _).setCell (by show w.heap.size ≤ w.heap.size + 1; omega) _).setCell (by show w.heap.size ≤ w.heap.size + 1; omega) _

/-- A batch as it is when it was taken. -/
def Bat.fresh (b : Bat) : Bat := { b with st := 1, fl := 0 }

theorem ownsMap_tight {H : Type} {w : World} {P : Program} {k : TypeId} {R : Value → Option (DataW H × List MemPlace)} {b n : Nat} {D : DataW H} (h : w.ownsMap P k R b n D) : w.ownsMap P k R b (Maps.size D) D := by
  obtain ⟨es, clock, hb, F, hs, rfl⟩ := h
  exact ⟨es, clock, hb, F, by simp [Maps.size, length_sorted], rfl⟩

/-- What belongs to an agent's queues. -/
def quP (who : Nat) : Lab → Prop := fun l => l = some (who, .qm) ∨ ∃ d t, l = some (who, .qr d t)
/-- The queues behind a batch's arrival. -/
def Queued (w : World) (L : Labs) (w' : World) (who bq : Nat) (bs : List Bat) : Prop := ∃ L', Step (quP who) L w L' w' ∧ QueuesAt w' L' who bq bs

theorem queued_step {V wE w2 w3 : World} {L : Labs} {who bq ql qc g2 cap2 : Nat} {qa : Option Addr} {bs : List Bat} {b : Bat} {D : DataW Value} (hlo : LaneOk b.dst b.ten) (hd : 0 ≤ b.dst ∧ b.dst < 4)
    (hq : OMapAt V L (some (who, .qm)) Tryz.prog 202 Rq bq (Maps.size D) D) (hsz : Maps.size D ≤ bs.length) (h4 : ∀ d t, LaneOk d t → Maps.has D (laneKey d t) = true → 0 ≤ d ∧ d < 4) (hhas : ∀ d t, LaneOk d t → pend bs d t ≠ [] → Maps.has D (laneKey d t) = true)
    (hrow : ∀ d t, LaneOk d t → RowAt V L (some (who, .qr d t)) 3 1 (hdr D d t) (pend bs d t).length (ints (pend bs d t)))
    (hSE : Step (fun l => l = some (who, .qm)) L V L wE) (hrE : RowAt wE L (some (who, .qr b.dst b.ten)) 3 1 (.slice qa ql qc) ql (ints (pend bs b.dst b.ten))) (hql : ql = (pend bs b.dst b.ten).length)
    (ho2 : w2.ownsRow 0 3 1 (.slice (some ⟨g2, 0, none⟩) (ql + 1) cap2) (ql + 1) (ints (pend bs b.dst b.ten) ++ [.int .i64 bs.length])) (hg2 : wE.grownBy w2 (Value.slice qa ql qc).ownBlock) (hat2' : (Value.slice qa ql qc).ownBlock = some g2 ∨ g2 = wE.heap.size)
    (ho3 : w3.ownsMap Tryz.prog 202 Rq bq (Maps.size D + 1) (D.put (laneKey b.dst b.ten) (.held (.slice (some ⟨g2, 0, none⟩) (ql + 1) cap2)))) (hg3 : w2.grownBy w3 (some bq)) : Queued V L w3 who bq (bs ++ [b.fresh]) := by
  obtain ⟨hr2, hl2⟩ := hrE.appended ho2 (hat2'.imp_right (fun e => Nat.le_of_eq e.symm))
  have hlq : bq < V.heap.size := hq.1.lt
  have hlE : bq < wE.heap.size := Nat.lt_of_lt_of_le hlq hSE.size
  have hl2' : lay L g2 (some (who, .qr b.dst b.ten)) bq = some (who, .qm) := (hl2 bq hlE).trans hq.2
  have s2 : Step (fun l => l = some (who, .qr b.dst b.ten)) L wE (lay L g2 (some (who, .qr b.dst b.ten))) w2 := Step.of_grown hg2 (fun j hj => hrE.2 j hj) hl2
  have s3 : Step (fun l => l = some (who, .qm)) (lay L g2 (some (who, .qr b.dst b.ten))) w2 (lay L g2 (some (who, .qr b.dst b.ten))) w3 := Step.of_grown hg3 (fun j hj => by cases hj; exact hl2') (fun _ _ => rfl)
  have hkl : WideAt.IsKeyLit (laneKey b.dst b.ten) := trivial
  have hpe : ∀ d t, pend (bs ++ [b.fresh]) d t = pend bs d t ++ (if b.dst = d ∧ b.ten = t then [bs.length] else []) := fun d t => by
    rw [pend_snoc]
    congr 1
    show (if decide (b.dst = d) && decide (b.ten = t) && decide ((1 : Int) = 1) then _ else _) = _
    simp
  refine ⟨_, ((hSE.mono (fun l h => Or.inl h)).trans (s2.mono (fun l h => Or.inr ⟨_, _, h⟩))).trans (s3.mono (fun l h => Or.inl h)), _, ⟨ownsMap_tight ho3, hl2'⟩, ?_, ?_, ?_, ?_⟩
  · have := Maps.size_put (D := D) (k := laneKey b.dst b.ten) (hq.1.tidy lawLane) (.held (Value.slice (some ⟨g2, 0, none⟩) (ql + 1) cap2))
    rw [this]
    simp only [List.length_append, List.length_cons, List.length_nil]
    split <;> omega
  · intro d t hl h
    by_cases e : b.dst = d ∧ b.ten = t
    · rw [← e.1]; exact hd
    · rw [Maps.has_put_other (laneKey_ne hl hlo (fun e' => e ⟨e'.1.symm, e'.2.symm⟩))] at h
      exact h4 d t hl h
  · intro d t hl h
    by_cases e : b.dst = d ∧ b.ten = t
    · rw [← e.1, ← e.2]; exact Maps.has_put_same hq.1.isMap hkl _
    · rw [Maps.has_put_other (laneKey_ne hl hlo (fun e' => e ⟨e'.1.symm, e'.2.symm⟩))]
      rw [hpe, if_neg e, List.append_nil] at h
      exact hhas d t hl h
  · intro d t hl
    rw [hpe]
    by_cases e : b.dst = d ∧ b.ten = t
    · obtain ⟨rfl, rfl⟩ := e
      have e1 : hdr (D.put (laneKey b.dst b.ten) (.held (.slice (some ⟨g2, 0, none⟩) (ql + 1) cap2))) b.dst b.ten = .slice (some ⟨g2, 0, none⟩) (ql + 1) cap2 := by
        unfold hdr; rw [Maps.atKey_put_same hq.1.isMap hkl]
      rw [e1]
      have := hr2.keep s3 (by simp)
      simpa [ints, hql] using this
    · have e1 : hdr (D.put (laneKey b.dst b.ten) (.held (.slice (some ⟨g2, 0, none⟩) (ql + 1) cap2))) d t = hdr D d t := by
        unfold hdr; rw [Maps.atKey_put_other (laneKey_ne hl hlo (fun e' => e ⟨e'.1.symm, e'.2.symm⟩))]
      rw [e1, if_neg e, List.append_nil]
      exact (((hrow d t hl).keep hSE (by simp)).keep s2 (fun h => e (by simp at h; exact ⟨h.1.symm, h.2.symm⟩))).keep s3 (by simp)

theorem infoPBatch3 : (Tryz.prog.info? 155).map (fun i => (i.zero, i.size, i.bytes)) = some (some (.agg #[.int .i64 0, .string ⟨#[]⟩, .string ⟨#[]⟩, .string ⟨#[]⟩, .int .i64 0, .int .i64 0]), 6, 72) := by kernel_rfl

theorem agCells_set0 (bq bm : Nat) (tv tv' dv nv rv ov : Value) (M : Ag) (bs : List Bat) : (agCells bq bm tv dv nv rv ov M).setIfInBounds 0 tv' = agCells bq bm tv' dv nv rv ov { M with bs := bs } := by
  apply Array.ext'
  rw [Array.toList_setIfInBounds]
  rfl

/-- An agent's parts beside its queues. -/
def AgRest (w : World) (L : Labs) (who g : Nat) (M : Ag) (bq bm cn : Nat) (tv dv nv rv ov : Value) : Prop :=
  BlkAt w L (some (who, .ag)) g (agCells bq bm tv dv nv rv ov M) 138 ∧ RowAt w L (some (who, .tk)) 155 6 tv M.bs.length (M.bs.flatMap Bat.cells) ∧ RowAt w L (some (who, .dd)) 3 1 dv M.dead.length (ints M.dead) ∧
  RowAt w L (some (who, .nm)) 9 1 nv M.ns.length (M.ns.map encStr) ∧ RowAt w L (some (who, .rt)) 189 2 rv M.rt.length (M.rt.flatMap Ret.cells) ∧ OutsAt w L who M.c.th ov M.os ∧ OMapAt w L (some (who, .cm)) Tryz.prog 9 (plainElem Tryz.prog 3) bm cn M.D
theorem AgAt.rest {w w' : World} {L L' : Labs} {who g : Nat} {M : Ag} {bq bm cn : Nat} {tv dv nv rv ov : Value} (h : AgAt w L who g M bq bm cn tv dv nv rv ov) (s : Step (quP who) L w L' w') : AgRest w' L' who g M bq bm cn tv dv nv rv ov :=
  ⟨h.blk.keep s (by simp [quP]), h.tk.keep s (by simp [quP]), h.dd.keep s (by simp [quP]), h.nm.keep s (by simp [quP]), h.rt.keep s (by simp [quP]), h.ol.keep s (by simp [quP]) (by simp [quP]) (by simp [quP]), h.cm.keep s (by simp [quP])⟩

theorem taken_step {wc w2 : World} {o : Obj} {L : Labs} {who g bq bm cn g2 cap2 : Nat} {tv dv nv rv ov : Value} {M : Ag} {b : Bat} (hA : AgRest wc L who g M bq bm cn tv dv nv rv ov) (hQ : QueuesAt wc L who bq (M.bs ++ [b]))
    (ho2 : w2.ownsRow 0 155 6 (.slice (some ⟨g2, 0, none⟩) (M.bs.length + 1) cap2) (M.bs.length + 1) (M.bs.flatMap Bat.cells ++ b.cells)) (hg2 : (wc.alloc o).drew.grownBy w2 tv.ownBlock) (hat2 : tv.ownBlock = some g2 ∨ g2 = wc.heap.size + 1) :
    ∃ L', AgentAt (w2.setCell ⟨g, 0, none⟩ (.slice (some ⟨g2, 0, none⟩) (M.bs.length + 1) cap2)) L' who g { M with bs := M.bs ++ [b] } ∧ Step (ofP who) L wc L' (w2.setCell ⟨g, 0, none⟩ (.slice (some ⟨g2, 0, none⟩) (M.bs.length + 1) cap2)) := by
  obtain ⟨a1, a2, a3, a4, a5, a6, a7⟩ := hA
  have s1 : Step (fun l => l = some (who, .tk)) L wc L (wc.alloc o).drew := (Step.alloc L wc o).trans (Step.drew L _)
  have s0 : Step (fun _ => False) L wc L (wc.alloc o).drew := (Step.alloc L wc o).trans (Step.drew L _)
  have a2' := a2.keep s0 (fun h => h)
  obtain ⟨hr2, hl2⟩ := a2'.appended ho2 (hat2.imp_right (fun e => by simp; omega))
  have s2 : Step (fun l => l = some (who, .tk)) L wc (lay L g2 (some (who, .tk))) w2 := s1.trans (Step.of_grown hg2 (fun j hj => a2'.2 j hj) hl2)
  have b1 := a1.keep s2 (by simp)
  have s3 : Step (fun l => l = some (who, .ag)) (lay L g2 (some (who, .tk))) w2 (lay L g2 (some (who, .tk))) (w2.setCell ⟨g, 0, none⟩ (.slice (some ⟨g2, 0, none⟩) (M.bs.length + 1) cap2)) := Step.setCell _ _ _ _ b1.2
  refine ⟨lay L g2 (some (who, .tk)), ⟨bq, bm, cn, .slice (some ⟨g2, 0, none⟩) (M.bs.length + 1) cap2, dv, nv, rv, ov, ?_, ?_, ?_, ?_, ?_, ?_, ?_, ?_⟩, (s2.mono (fun l h => ⟨_, h⟩)).trans (s3.mono (fun l h => ⟨_, h⟩))⟩
  · refine ⟨?_, b1.2⟩
    rw [← agCells_set0 bq bm tv]
    exact b1.1.set 0 _
  · have := hr2.keep s3 (by simp)
    simpa [List.flatMap_append] using this
  · exact (hQ.keep s2 (by simp) (by simp)).keep s3 (by simp) (by simp)
  · exact (a3.keep s2 (by simp)).keep s3 (by simp)
  · exact (a4.keep s2 (by simp)).keep s3 (by simp)
  · exact (a5.keep s2 (by simp)).keep s3 (by simp)
  · exact (a6.keep s2 (by simp) (by simp) (by simp)).keep s3 (by simp) (by simp) (by simp)
  · exact (a7.keep s2 (by simp)).keep s3 (by simp)

/-- Labels of blocks that are not there yet say nothing. -/
def clip (L : Labs) (n : Nat) : Labs := fun k => if k < n then L k else none
theorem Step.clipped {p : Lab → Prop} (L : Labs) (w : World) : Step p L w (clip L w.heap.size) w := ⟨rfl, rfl, rfl, Nat.le_refl _, fun _ hk => if_pos hk, fun _ _ _ => rfl⟩
theorem clip_none (L : Labs) {n k : Nat} (h : n ≤ k) : clip L n k = none := if_neg (by omega)

set_option maxRecDepth 100000 in
set_option maxHeartbeats 2000000 in
theorem take_core (L : Labs) (who g : Nat) (M : Ag) (b : Bat) (w : World) (hLn : ∀ k, w.heap.size ≤ k → L k = none) (hA : AgentAt w L who g M) (hb : M.bs.length < 120) (hd : 0 ≤ b.dst ∧ b.dst < 4) (ht : b.ten.length ≤ 16) (hid : b.id.length ≤ 16) (hbo : b.body.length ≤ 63) :
    Calls Tryz.prog 136 #[.pointer (some ⟨g, 0, none⟩), evVal b] w fun e w' => e = .returned (.tuple #[]) ∧ ∃ L', AgentAt w' L' who g { M with bs := M.bs ++ [b.fresh] } ∧ Step (ofP who) L w L' w' := by
  obtain ⟨bq, bm, cn, tv, dv, nv, rv, ov, h⟩ := hA
  obtain ⟨ta, tc, rfl, _⟩ := h.tk.shape
  have HA := hide h
  have hgl := h.blk.1.lt
  have HOb := hide (fun w => ownBatch_any b w ht hid hbo)
  unfold evVal
  unfold batVal at HOb
  clear h
  go_enter Tryz.func136, Tryz.ntmps136
  go_wp2_with fail
  refine (HOb.out _).mono ?_
  rintro e w1 ⟨rfl, hb1⟩
  have HB1 : Hid (Below w.heap.size w w1) := ((Below.refl _ _).alloc (Nat.le_refl _) _).trans (hb1.mono (by simp))
  clear hb1
  go_wp2_with fail
  obtain ⟨i0, hi, hz0, hz1, hz2⟩ := info_parts infoI64
  generalize hV : World.alloc (World.alloc w1 _) _ = V
  have hBV : Below w.heap.size w V := by rw [← hV]; exact (HB1.out.alloc HB1.out.size _).alloc (by simp; exact Nat.le_succ_of_le HB1.out.size) _
  have hN4 : Blk V w1.heap.size #[.int .i64 b.dst, encStr b.ten, encStr b.id, encStr b.body] 45 := by rw [← hV]; exact (Blk.new w1 _ _).alloc _
  have hN5 : Blk V (w1.heap.size + 1) #[.int .i64 b.dst, encStr b.ten] 202 := by rw [← hV]; exact Blk.made (by simp) _ _
  have hAV := HA.out.keep (Step.of_below (p := fun _ => False) (L := L) hBV) (fun _ h => h)
  have c0 : V.cell? ⟨g, 0, none⟩ = some (.slice ta M.bs.length tc) := hAV.blk.1.cell 0
  have c1 : V.cell? ⟨g, 1, none⟩ = some (.map (some bq)) := hAV.blk.1.cell 1
  have l0 : V.cell? ⟨w1.heap.size + 1, 0, none⟩ = some (.int .i64 b.dst) := hN5.cell 0
  have l1 : V.cell? ⟨w1.heap.size + 1, 1, none⟩ = some (encStr b.ten) := hN5.cell 1
  have c0' := fun o => cell?_alloc_old o c0
  have c1' := fun o => cell?_alloc_old o c1
  have l0' := fun o => cell?_alloc_old o l0
  have l1' := fun o => cell?_alloc_old o l1
  obtain ⟨D, hq, hsz, h4, hhas, hrow⟩ := hAV.qs
  have hlo : LaneOk b.dst b.ten := laneOk_small hd.1 hd.2 (by unfold maxLen; omega)
  have hbs : M.bs.length ≤ 120 := by omega
  obtain ⟨qa, ql, qc, st, wE, hrE, hhd, hgE, hback⟩ := entry_queue (w := (V.alloc (.cells #[.int .i64 M.bs.length] 3)).drew) (hq.1.alloc _) (by unfold maxLen; omega) hlo
  have hr0 := hrow b.dst b.ten hlo
  rw [hhd] at hr0
  have hql : ql = (pend M.bs b.dst b.ten).length := by
    obtain ⟨a', c', e', _⟩ := hr0.shape
    simp at e'
    exact e'.2.1
  have hqle : ql ≤ 120 := by rw [hql]; exact Nat.le_trans (pend_le _ _ _) hbs
  rw [← hql] at hr0
  have hSE : Step (fun l => l = some (who, .qm)) L V L wE := (Step.alloc L V _).trans ((Step.drew L _).trans (Step.of_grown hgE (fun j hj => by cases hj; exact hq.2) (fun _ _ => rfl)))
  have hrE0 := hr0.keep hSE (by simp)
  have hnE : wE.heap[V.heap.size]? = some (.cells #[.int .i64 M.bs.length] 3 (0, 0)) := by
    rw [hgE.block V.heap.size (by simp) (fun e => by have := hq.1.lt; simp at e; omega)]
    exact obj_new rfl _
  simp only [laneVal] at hrE
  have HAV := hide hAV
  have HBV := hide hBV
  have HN4 := hide hN4
  have HD := hide (And.intro hq (And.intro hsz (And.intro h4 (And.intro hhas hrow))))
  have HhE := hide hhd
  have HSE := hide hSE
  have Hr0 := hide hr0
  have HrE := hide hrE0
  have Hback := hide hback
  have HnE := hide hnE
  have Hql := hide hql
  have hzE : V.heap.size < wE.heap.size := (Array.getElem?_eq_some_iff.1 hnE).1
  have hqlt := hq.1.lt
  have HbqE : Hid (∀ w2 : World, wE.grownBy w2 (Value.slice qa ql qc).ownBlock → w2.heap[bq]? = wE.heap[bq]?) := fun w2 hg => hg.block bq (by omega) (fun e => by
    have := hrE0.2 bq e.symm
    rw [(hSE.lab bq hqlt), hq.2] at this
    simp at this)
  clear hAV hBV hN4 hN5 hq hsz h4 hhas hrow hhd hgE hback hr0 hql hSE hrE0 hnE hV
  go_upto_region 3 with fail
  go_cut [] (fun wx => Queued V L wx who bq (M.bs ++ [b.fresh]))
  case first =>
   go_region_law (refine step_append_lies _ (by rfl) _ _ _ (by rfl) 0 3 i0 (.int .i64 0) 1 8 Tryz.underlying51 hi hz0 hz1 hz2 rfl (by omega) (.slice qa ql qc) ql _ (by rfl) HrE.out.1 ⟨V.heap.size, 0, none⟩ 1 1 [.int .i64 M.bs.length] (by rfl) (by rfl) (World.news_of_block (cs := #[.int .i64 M.bs.length]) (t := 3) (fr := (0, 0)) HnE.out) (by simp [Value.oneCell']) (by omega) (by unfold maxLen; omega) (by omega) (Nat.zero_le _) wE.heap.size rfl ?_; intro g2 cap2 w2 hown2 hg2 hat2 hlt2; obtain ⟨w3, hrS, hown3, hg3⟩ := Hback.out w2 (some ⟨g2, 0, none⟩) (ql + 1) cap2 (HbqE.out w2 hg2); have Ho2 := hide hown2; have Hg2 := hide hg2; have Hat2 := hide hat2; have Ho3 := hide hown3; have Hg3 := hide hg3; clear hown2 hg2 hat2 hown3 hg3)
   all_goals (go_wp2_with fail; go_meet; exact queued_step hlo hd HD.out.1 HD.out.2.1 HD.out.2.2.1 HD.out.2.2.2.1 HD.out.2.2.2.2 HSE.out HrE.out Hql.out Ho2.out Hg2.out Hat2.out Ho3.out Hg3.out)
  case rest =>
  obtain ⟨L1, hs1, hQ1⟩ := hcut
  have hr := HAV.out.rest hs1
  have hbk : Blk wc w1.heap.size #[.int .i64 b.dst, encStr b.ten, encStr b.id, encStr b.body] 45 := by
    unfold Blk
    rw [hs1.block _ HN4.out.lt (by rw [hLn _ HB1.out.size]; simp [quP])]
    exact HN4.out
  have d0 : wc.cell? ⟨w1.heap.size, 0, none⟩ = some (.int .i64 b.dst) := hbk.cell 0
  have d1 : wc.cell? ⟨w1.heap.size, 1, none⟩ = some (encStr b.ten) := hbk.cell 1
  have d2 : wc.cell? ⟨w1.heap.size, 2, none⟩ = some (encStr b.id) := hbk.cell 2
  have d3 : wc.cell? ⟨w1.heap.size, 3, none⟩ = some (encStr b.body) := hbk.cell 3
  have t0 : wc.cell? ⟨g, 0, none⟩ = some (.slice ta M.bs.length tc) := hr.1.1.cell 0
  have HS1 : Hid (Step (ofP who) L w L1 wc) := (Step.of_below HBV.out).trans (hs1.mono (fun l h => by rcases h with h | ⟨_, _, h⟩ <;> exact ⟨_, h⟩))
  have HR1 := hide hr
  have HQ1 := hide hQ1
  have hgc : g < wc.heap.size := hr.1.1.lt
  have hbl : w1.heap.size < wc.heap.size := hbk.lt
  obtain ⟨i1, hi1, hy0, hy1, hy2⟩ := info_parts infoPBatch3
  clear hs1 hr hbk hQ1 c0 c1 c0' c1' l0 l1 l0' l1' hrE
  go_wp2_with fail
  go_region_law (refine step_append_lies _ (by rfl) _ _ _ (by rfl) 0 155 i1 _ 6 72 Tryz.underlying131 hi1 hy0 hy1 hy2 rfl (by omega) (.slice ta M.bs.length tc) M.bs.length (M.bs.flatMap Bat.cells) (by rfl) ((HR1.out.2.1.1.alloc _).drew) ⟨wc.heap.size, 0, none⟩ 1 1 b.fresh.cells (by rfl) (by rfl) (World.news_of_block (cs := b.fresh.cells.toArray) (t := 155) (fr := (0, 0)) (heap_alloc_new wc _)) (by simp [Value.oneCell', Bat.cells, encStr]) (by omega) (by unfold maxLen; omega) (by omega) (by omega) (wc.heap.size + 1) (by simp) ?_; intro g2 cap2 w2 hown2 hg2 hat2 hlt2; have hBk := Blk.grown (w := World.drew (World.alloc wc _)) (HR1.out.1.1.alloc _) hg2 (fun e => by have := HR1.out.2.1.2 g e.symm; rw [HR1.out.1.2] at this; simp at this); have z0 := hBk.cell 0; have y0 := hBk.frozen 0; simp [agCells] at z0; have HU := hide (taken_step HR1.out HQ1.out hown2 hg2 hat2); clear hBk hown2 hg2 hat2)
  all_goals
    go_wp2_with fail
    first | go_end0 | refine bodyPost_ret (results_none rfl _ _ _) rfl ?_
    obtain ⟨L2, hA2, hS2⟩ := HU.out
    exact ⟨rfl, L2, hA2, HS1.out.trans hS2⟩

theorem take_any (L : Labs) (who g : Nat) (M : Ag) (b : Bat) (w : World) (hA : AgentAt w L who g M) (hb : M.bs.length < 120) (hd : 0 ≤ b.dst ∧ b.dst < 4) (ht : b.ten.length ≤ 16) (hid : b.id.length ≤ 16) (hbo : b.body.length ≤ 63) :
    Calls Tryz.prog 136 #[.pointer (some ⟨g, 0, none⟩), evVal b] w fun e w' => e = .returned (.tuple #[]) ∧ ∃ L', AgentAt w' L' who g { M with bs := M.bs ++ [b.fresh] } ∧ Step (ofP who) L w L' w' := by
  refine (take_core (clip L w.heap.size) who g M b w (fun k hk => clip_none L hk) (hA.keep (Step.clipped (p := fun _ => False) L w) (fun _ h => h)) hb hd ht hid hbo).mono ?_
  rintro e w' ⟨rfl, L', h1, h2⟩
  exact ⟨rfl, L', h1, (Step.clipped L w).trans h2⟩
end Go.Proofs.YtojpjaifhjigfaaGreatDoor
