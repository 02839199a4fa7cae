/- Steps of the proof (several texts in one): TakeLaws, Pends, Take, Play. -/
import Derived.Test.YtojpjaifhjigfaaGreatDoorMAllupto07
import Derived.WideKeyEntry
import Derived.Deep.RegionLaw
import Derived.Test.YtojpjaifhjigfaaGreatDoorMAllupto04
import Derived.Laws.ResultCell

/- 'queues[key] = append(queues[key], place)': the entry, and the store into it. -/
namespace Go.Proofs.YtojpjaifhjigfaaGreatDoor
open Go.RowKit Go.Maps

/-- What is handed over with an entry: a store into it puts the value at its key. -/
def EntryBack (w1 : World) (b st n : Nat) (kl : Lit) (D : DataW Value) : Prop := ∀ (w2 : World) (a : Option Addr) (len cap : Nat), w2.heap[b]? = w1.heap[b]? →
  ∃ w3, (Instr.entryStore 132 (.map (some b)) (.int .i64 st) (.slice a len cap)).run Tryz.prog w2 = .ok () w3 ∧ w3.ownsMap Tryz.prog 202 Rq b (n + 1) (D.put kl (.held (.slice a len cap))) ∧ w2.grownBy w3 (some b)

theorem zeroInts (w : World) : (zeroValue 51).run Tryz.prog w = .ok (.slice none 0 0) w := by kernel_rfl

theorem entry_queue {w : World} {b n : Nat} {D : DataW Value} (h : w.ownsMap Tryz.prog 202 Rq b n D) (hn : n < maxLen) {d : Int} {t : List UInt8} (hl : LaneOk d t) :
    ∃ (a : Option Addr) (len cap st : Nat) (w1 : World), (Instr.mapEntry 132 (.map (some b)) (laneVal d t)).run Tryz.prog w = .ok (.tuple #[.slice a len cap, .int .i64 st]) w1 ∧ hdr D d t = .slice a len cap ∧ w.grownBy w1 (some b) ∧ EntryBack w1 b st n (laneKey d t) D := by
  have h0 := h
  obtain ⟨es, clock, hb, F, hs, hD⟩ := h
  have hkey := keyOf_lane hl
  obtain ⟨v0, st, es1, clock1, hrun, hv0, hback⟩ := WideElems.entry_then_store klawLane Tryz.underlying132 (z := .slice none 0 0) zeroInts hb F hkey
  have hsh : ∃ a len cap, v0 = .slice a len cap ∧ D.atKey (laneKey d t) (.held (.slice none 0 0)) = .held v0 := by
    rw [hD]
    rcases Maps.fit_look false lawLane Tryz.underlying132 (zeroInts w) hb F hkey with ⟨_, hno, hat⟩ | ⟨e1, y, hm1, hk1, _, hR1, hat, _⟩
    · rcases hv0 with ⟨e0, hm0, hk0, _⟩ | ⟨_, rfl⟩
      · exact absurd hk0 (hno e0 hm0)
      · exact ⟨_, _, _, rfl, hat _⟩
    · rcases hv0 with ⟨e0, hm0, hk0, rfl⟩ | ⟨hno, _⟩
      · have hpw : es.toList.Pairwise (fun x y => x.key ≠ y.key) := by
          have := F.stamped.2.2
          rw [List.nodup_iff_pairwise_ne, List.pairwise_map] at this
          exact this
        obtain rfl : e0 = e1 := entry_eq_of_key hpw hm0 hm1 (hk0.trans hk1.symm)
        rw [hat]
        unfold Rq at hR1
        split at hR1
        · rename_i a len cap he
          refine ⟨a, len, cap, he, ?_⟩
          rw [← Option.some.inj hR1]
        · cases hR1
      · exact absurd hk1 (hno e1 hm1)
  obtain ⟨a, len, cap, rfl, hat⟩ := hsh
  refine ⟨a, len, cap, st, _, hrun, by simp [hdr, hat], ⟨rfl, rfl, rfl, by simp [ChangeMaps.setBlock], fun k _ hk => ChangeMaps.heap_setBlock_other hb _ (fun e => hk (by rw [e]))⟩, fun w2 a' len' cap' hw2 => ?_⟩
  rw [ChangeMaps.heap_setBlock_same hb] at hw2
  obtain ⟨es', clock', hst, hup⟩ := hback w2 (.slice a' len' cap') hw2
  obtain ⟨w', hup', hown', _⟩ := h0.update lawLane Tryz.underlying132 hn (val := .slice a' len' cap') (d := .held (.slice a' len' cap')) (ps := []) hkey rfl
  rw [hup] at hup'
  have hw' : ChangeMaps.setBlock w b (.map es' clock') = w' := by
    have := hup'
    simp only [Result.ok.injEq, true_and] at this
    exact this
  obtain ⟨es2, clock2, hb2, F2, hs2, hD2⟩ := hown'
  rw [← hw', ChangeMaps.heap_setBlock_same hb] at hb2
  simp only [Option.some.injEq, Obj.map.injEq] at hb2
  obtain ⟨rfl, rfl⟩ := hb2
  exact ⟨_, hst, ⟨es', clock', ChangeMaps.heap_setBlock_same hw2 _, F2, hs2, hD2⟩, ⟨rfl, rfl, rfl, by simp [ChangeMaps.setBlock], fun k _ hk => ChangeMaps.heap_setBlock_other hw2 _ (fun e => hk (by rw [e]))⟩⟩

end Go.Proofs.YtojpjaifhjigfaaGreatDoor

/- The queues of a list of batches that grows. -/
namespace Go.Proofs.YtojpjaifhjigfaaGreatDoor
open Go.RowKit Go.Maps

/-- Lanes against tenants: of batches to the four destinations the counts are one. -/
theorem pend_snoc (bs : List Bat) (b : Bat) (d : Int) (t : List UInt8) : pend (bs ++ [b]) d t = pend bs d t ++ (if decide (b.dst = d) && decide (b.ten = t) && decide (b.st = 1) then [bs.length] else []) := by
  unfold pend
  rw [List.zipIdx_append, List.filter_append, List.map_append]
  congr 1
  simp only [List.zipIdx_cons, List.zipIdx_nil, List.filter_cons, List.filter_nil]
  split <;> simp_all
theorem waits_snoc (bs : List Bat) (b : Bat) (h0 : 0 ≤ b.dst) (h1 : b.dst < 4) (t : List UInt8) : waits (bs ++ [b]) t = waits bs t + (if decide (b.ten = t) && decide (b.st = 1) then 1 else 0) := by
  have hd : b.dst = 0 ∨ b.dst = 1 ∨ b.dst = 2 ∨ b.dst = 3 := by omega
  unfold waits
  rw [pend_snoc, pend_snoc, pend_snoc, pend_snoc]
  rcases hd with h | h | h | h <;> rw [h] <;> by_cases ht : b.ten = t <;> by_cases hs : b.st = 1 <;> simp [ht, hs] <;> omega
theorem snoc_ind {α : Type} {P : List α → Prop} (h0 : P []) (hs : ∀ l a, P l → P (l ++ [a])) (l : List α) : P l := by
  have : ∀ m : List α, P m.reverse := fun m => by
    induction m with
    | nil => exact h0
    | cons a m ih => rw [List.reverse_cons]; exact hs _ _ ih
  simpa using this l.reverse
end Go.Proofs.YtojpjaifhjigfaaGreatDoor

/- take: a batch is laid at the end of its queue. -/
namespace Go.Proofs.YtojpjaifhjigfaaGreatDoor
open Go.RowKit Go.Maps

def batVal (b : Bat) : Value := .agg #[.int .i64 b.dst, encStr b.ten, encStr b.id, encStr b.body]
theorem infoBatch : (Tryz.prog.info? 45).map (·.size) = some 4 := by kernel_rfl

set_option maxRecDepth 100000 in
set_option maxHeartbeats 1000000 in
theorem ownBatch_any (b : Bat) (w : World) (ht : b.ten.length ≤ 16) (hid : b.id.length ≤ 16) (hbo : b.body.length ≤ 63) : Calls Tryz.prog 156 #[batVal b] w fun e w' => e = .returned (batVal b) ∧ Below w.heap.size w w' := by
  have H := fun (s : List UInt8) (hs : s.length ≤ 63) (w : World) => hide (strClone_any ⟨s.toArray⟩ w (by simp [ByteArray.size]; omega))
  unfold batVal
  go_enter Tryz.func156, Tryz.ntmps156
  go_wp2_with fail
  refine (H b.ten (by omega) _).out.mono ?_
  rintro e w1 ⟨rfl, hb1⟩
  have hK1 : Blk w1 w.heap.size #[.int .i64 b.dst, encStr b.ten, encStr b.id, encStr b.body] 45 := ((Blk.new w _ _).alloc _).below hb1 (by simp; omega)
  have hR1 : Blk w1 (w.heap.size + 1) #[.int .i64 0, .string ⟨#[]⟩, .string ⟨#[]⟩, .string ⟨#[]⟩] 45 := (Blk.made (by simp) _ _).below hb1 (by simp)
  have hB1 : Below w.heap.size w w1 := (((Below.refl _ _).alloc (Nat.le_refl _) _).alloc (by simp) _).trans (hb1.mono (by simp; omega))
  have k1 : w1.cell? ⟨w.heap.size, 1, none⟩ = some (encStr b.ten) := hK1.cell 1
  have k2 : w1.cell? ⟨w.heap.size, 2, none⟩ = some (encStr b.id) := hK1.cell 2
  have f1 := hK1.frozen 1
  have HK1 := hide hK1
  have HR1 := hide hR1
  have HB1 := hide hB1
  clear hb1 hK1 hR1 hB1
  go_wp2_with fail
  refine (H b.id (by omega) _).out.mono ?_
  rintro e w2 ⟨rfl, hb2⟩
  have hK2 : Blk w2 w.heap.size #[.int .i64 b.dst, encStr b.ten, encStr b.id, encStr b.body] 45 := (HK1.out.set 1 (encStr b.ten)).below hb2 (HK1.out.set 1 (encStr b.ten)).lt
  have hR2 : Blk w2 (w.heap.size + 1) #[.int .i64 0, .string ⟨#[]⟩, .string ⟨#[]⟩, .string ⟨#[]⟩] 45 := (HR1.out.other ⟨w.heap.size, 1, none⟩ (encStr b.ten) (by simp)).below hb2 (HR1.out.other ⟨w.heap.size, 1, none⟩ (encStr b.ten) (by simp)).lt
  have hB2 : Below w.heap.size w w2 := (HB1.out.setCell (p := ⟨w.heap.size, 1, none⟩) (Nat.le_refl _) (encStr b.ten)).trans (hb2.mono (Nat.le_of_lt (HK1.out.set 1 (encStr b.ten)).lt))
  have k2' : w2.cell? ⟨w.heap.size, 2, none⟩ = some (encStr b.id) := hK2.cell 2
  have k3' : w2.cell? ⟨w.heap.size, 3, none⟩ = some (encStr b.body) := hK2.cell 3
  have f2 := hK2.frozen 2
  have HK2 := hide hK2
  have HR2 := hide hR2
  have HB2 := hide hB2
  clear hb2 hK2 hR2 hB2 k1 k2 f1
  go_wp2_with fail
  refine (H b.body (by omega) _).out.mono ?_
  rintro e w3 ⟨rfl, hb3⟩
  have hK3 : Blk w3 w.heap.size #[.int .i64 b.dst, encStr b.ten, encStr b.id, encStr b.body] 45 := (HK2.out.set 2 (encStr b.id)).below hb3 (HK2.out.set 2 (encStr b.id)).lt
  have hR3 : Blk w3 (w.heap.size + 1) #[.int .i64 0, .string ⟨#[]⟩, .string ⟨#[]⟩, .string ⟨#[]⟩] 45 := (HR2.out.other ⟨w.heap.size, 2, none⟩ (encStr b.id) (by simp)).below hb3 (HR2.out.other ⟨w.heap.size, 2, none⟩ (encStr b.id) (by simp)).lt
  have hB3 : Below w.heap.size w w3 := (HB2.out.setCell (p := ⟨w.heap.size, 2, none⟩) (Nat.le_refl _) (encStr b.id)).trans (hb3.mono (Nat.le_of_lt (HK2.out.set 2 (encStr b.id)).lt))
  have q0 : w3.cell? ⟨w.heap.size, 0, none⟩ = some (.int .i64 b.dst) := hK3.cell 0
  have q1 : w3.cell? ⟨w.heap.size, 1, none⟩ = some (encStr b.ten) := hK3.cell 1
  have q2 : w3.cell? ⟨w.heap.size, 2, none⟩ = some (encStr b.id) := hK3.cell 2
  have q3 : w3.cell? ⟨w.heap.size, 3, none⟩ = some (encStr b.body) := hK3.cell 3
  have f3 := hK3.frozen 3
  have r0 : w3.cell? ⟨w.heap.size + 1, 0, none⟩ = some (.int .i64 0) := hR3.cell 0
  have r1 : w3.cell? ⟨w.heap.size + 1, 1, none⟩ = some (.string ⟨#[]⟩) := hR3.cell 1
  have r2 : w3.cell? ⟨w.heap.size + 1, 2, none⟩ = some (.string ⟨#[]⟩) := hR3.cell 2
  have r3 : w3.cell? ⟨w.heap.size + 1, 3, none⟩ = some (.string ⟨#[]⟩) := hR3.cell 3
  have rf := fun o => hR3.frozen o
  have HK3 := hide hK3
  have HR3 := hide hR3
  have HB3 := hide hB3
  clear hb3 hK3 hR3 hB3 k2' k3' f2
  go_wp2_with fail
  have hR4 := ((((HR3.out.other ⟨w.heap.size, 3, none⟩ (encStr b.body) (by simp)).set 0 (.int .i64 b.dst)).set 1 (encStr b.ten)).set 2 (encStr b.id)).set 3 (encStr b.body)
  refine bodyPost_ret (v := batVal b) (results_cell1 Tryz.results156 rfl (run_loadVar_mid _ _ 0 45 [.int .i64 b.dst, encStr b.ten, encStr b.id, encStr b.body] _ (hR4.range 0 _ rfl) Tryz.underlying45 rfl infoBatch)) rfl ⟨rfl, ?_⟩
  exact ((((HB3.out.setCell (by exact Nat.le_refl _) _).setCell (by show w.heap.size ≤ w.heap.size + 1; omega) _).setCell (by show w.heap.size ≤ w.heap.size + 1; omega) _).setCell (by show w.heap.size ≤ w.heap.size + 1; omega) _).setCell (by show w.heap.size ≤ w.heap.size + 1; omega) _

/-- A batch as it is when it was taken. -/
def Bat.fresh (b : Bat) : Bat := { b with st := 1, fl := 0 }

theorem ownsMap_tight {H : Type} {w : World} {P : Program} {k : TypeId} {R : Value → Option (DataW H × List MemPlace)} {b n : Nat} {D : DataW H} (h : w.ownsMap P k R b n D) : w.ownsMap P k R b (Maps.size D) D := by
  obtain ⟨es, clock, hb, F, hs, rfl⟩ := h
  exact ⟨es, clock, hb, F, by simp [Maps.size, length_sorted], rfl⟩

/-- What belongs to an agent's queues. -/
def quP (who : Nat) : Lab → Prop := fun l => l = some (who, .qm) ∨ ∃ d t, l = some (who, .qr d t)
/-- The queues behind a batch's arrival. -/
def Queued (w : World) (L : Labs) (w' : World) (who bq : Nat) (bs : List Bat) : Prop := ∃ L', Step (quP who) L w L' w' ∧ QueuesAt w' L' who bq bs

theorem queued_step {V wE w2 w3 : World} {L : Labs} {who bq ql qc g2 cap2 : Nat} {qa : Option Addr} {bs : List Bat} {b : Bat} {D : DataW Value} (hlo : LaneOk b.dst b.ten) (hd : 0 ≤ b.dst ∧ b.dst < 4)
    (hq : OMapAt V L (some (who, .qm)) Tryz.prog 202 Rq bq (Maps.size D) D) (hsz : Maps.size D ≤ bs.length) (h4 : ∀ d t, LaneOk d t → Maps.has D (laneKey d t) = true → 0 ≤ d ∧ d < 4) (hhas : ∀ d t, LaneOk d t → pend bs d t ≠ [] → Maps.has D (laneKey d t) = true)
    (hrow : ∀ d t, LaneOk d t → RowAt V L (some (who, .qr d t)) 3 1 (hdr D d t) (pend bs d t).length (ints (pend bs d t)))
    (hSE : Step (fun l => l = some (who, .qm)) L V L wE) (hrE : RowAt wE L (some (who, .qr b.dst b.ten)) 3 1 (.slice qa ql qc) ql (ints (pend bs b.dst b.ten))) (hql : ql = (pend bs b.dst b.ten).length)
    (ho2 : w2.ownsRow 0 3 1 (.slice (some ⟨g2, 0, none⟩) (ql + 1) cap2) (ql + 1) (ints (pend bs b.dst b.ten) ++ [.int .i64 bs.length])) (hg2 : wE.grownBy w2 (Value.slice qa ql qc).ownBlock) (hat2' : (Value.slice qa ql qc).ownBlock = some g2 ∨ g2 = wE.heap.size)
    (ho3 : w3.ownsMap Tryz.prog 202 Rq bq (Maps.size D + 1) (D.put (laneKey b.dst b.ten) (.held (.slice (some ⟨g2, 0, none⟩) (ql + 1) cap2)))) (hg3 : w2.grownBy w3 (some bq)) : Queued V L w3 who bq (bs ++ [b.fresh]) := by
  obtain ⟨hr2, hl2⟩ := hrE.appended ho2 (hat2'.imp_right (fun e => Nat.le_of_eq e.symm))
  have hlq : bq < V.heap.size := hq.1.lt
  have hlE : bq < wE.heap.size := Nat.lt_of_lt_of_le hlq hSE.size
  have hl2' : lay L g2 (some (who, .qr b.dst b.ten)) bq = some (who, .qm) := (hl2 bq hlE).trans hq.2
  have s2 : Step (fun l => l = some (who, .qr b.dst b.ten)) L wE (lay L g2 (some (who, .qr b.dst b.ten))) w2 := Step.of_grown hg2 (fun j hj => hrE.2 j hj) hl2
  have s3 : Step (fun l => l = some (who, .qm)) (lay L g2 (some (who, .qr b.dst b.ten))) w2 (lay L g2 (some (who, .qr b.dst b.ten))) w3 := Step.of_grown hg3 (fun j hj => by cases hj; exact hl2') (fun _ _ => rfl)
  have hkl : WideAt.IsKeyLit (laneKey b.dst b.ten) := trivial
  have hpe : ∀ d t, pend (bs ++ [b.fresh]) d t = pend bs d t ++ (if b.dst = d ∧ b.ten = t then [bs.length] else []) := fun d t => by
    rw [pend_snoc]
    congr 1
    show (if decide (b.dst = d) && decide (b.ten = t) && decide ((1 : Int) = 1) then _ else _) = _
    simp
  refine ⟨_, ((hSE.mono (fun l h => Or.inl h)).trans (s2.mono (fun l h => Or.inr ⟨_, _, h⟩))).trans (s3.mono (fun l h => Or.inl h)), _, ⟨ownsMap_tight ho3, hl2'⟩, ?_, ?_, ?_, ?_⟩
  · have := Maps.size_put (D := D) (k := laneKey b.dst b.ten) (hq.1.tidy lawLane) (.held (Value.slice (some ⟨g2, 0, none⟩) (ql + 1) cap2))
    rw [this]
    simp only [List.length_append, List.length_cons, List.length_nil]
    split <;> omega
  · intro d t hl h
    by_cases e : b.dst = d ∧ b.ten = t
    · rw [← e.1]; exact hd
    · rw [Maps.has_put_other (laneKey_ne hl hlo (fun e' => e ⟨e'.1.symm, e'.2.symm⟩))] at h
      exact h4 d t hl h
  · intro d t hl h
    by_cases e : b.dst = d ∧ b.ten = t
    · rw [← e.1, ← e.2]; exact Maps.has_put_same hq.1.isMap hkl _
    · rw [Maps.has_put_other (laneKey_ne hl hlo (fun e' => e ⟨e'.1.symm, e'.2.symm⟩))]
      rw [hpe, if_neg e, List.append_nil] at h
      exact hhas d t hl h
  · intro d t hl
    rw [hpe]
    by_cases e : b.dst = d ∧ b.ten = t
    · obtain ⟨rfl, rfl⟩ := e
      have e1 : hdr (D.put (laneKey b.dst b.ten) (.held (.slice (some ⟨g2, 0, none⟩) (ql + 1) cap2))) b.dst b.ten = .slice (some ⟨g2, 0, none⟩) (ql + 1) cap2 := by
        unfold hdr; rw [Maps.atKey_put_same hq.1.isMap hkl]
      rw [e1]
      have := hr2.keep s3 (by simp)
      simpa [ints, hql] using this
    · have e1 : hdr (D.put (laneKey b.dst b.ten) (.held (.slice (some ⟨g2, 0, none⟩) (ql + 1) cap2))) d t = hdr D d t := by
        unfold hdr; rw [Maps.atKey_put_other (laneKey_ne hl hlo (fun e' => e ⟨e'.1.symm, e'.2.symm⟩))]
      rw [e1, if_neg e, List.append_nil]
      exact (((hrow d t hl).keep hSE (by simp)).keep s2 (fun h => e (by simp at h; exact ⟨h.1.symm, h.2.symm⟩))).keep s3 (by simp)

theorem infoPBatch3 : (Tryz.prog.info? 155).map (fun i => (i.zero, i.size, i.bytes)) = some (some (.agg #[.int .i64 0, .string ⟨#[]⟩, .string ⟨#[]⟩, .string ⟨#[]⟩, .int .i64 0, .int .i64 0]), 6, 72) := by kernel_rfl

theorem agCells_set0 (bq bm : Nat) (tv tv' dv nv rv ov : Value) (M : Ag) (bs : List Bat) : (agCells bq bm tv dv nv rv ov M).setIfInBounds 0 tv' = agCells bq bm tv' dv nv rv ov { M with bs := bs } := by
  apply Array.ext'
  rw [Array.toList_setIfInBounds]
  rfl

/-- An agent's parts beside its queues. -/
def AgRest (w : World) (L : Labs) (who g : Nat) (M : Ag) (bq bm cn : Nat) (tv dv nv rv ov : Value) : Prop :=
  BlkAt w L (some (who, .ag)) g (agCells bq bm tv dv nv rv ov M) 138 ∧ RowAt w L (some (who, .tk)) 155 6 tv M.bs.length (M.bs.flatMap Bat.cells) ∧ RowAt w L (some (who, .dd)) 3 1 dv M.dead.length (ints M.dead) ∧
  RowAt w L (some (who, .nm)) 9 1 nv M.ns.length (M.ns.map encStr) ∧ RowAt w L (some (who, .rt)) 189 2 rv M.rt.length (M.rt.flatMap Ret.cells) ∧ OutsAt w L who M.c.th ov M.os ∧ OMapAt w L (some (who, .cm)) Tryz.prog 9 (plainElem Tryz.prog 3) bm cn M.D
theorem AgAt.rest {w w' : World} {L L' : Labs} {who g : Nat} {M : Ag} {bq bm cn : Nat} {tv dv nv rv ov : Value} (h : AgAt w L who g M bq bm cn tv dv nv rv ov) (s : Step (quP who) L w L' w') : AgRest w' L' who g M bq bm cn tv dv nv rv ov :=
  ⟨h.blk.keep s (by simp [quP]), h.tk.keep s (by simp [quP]), h.dd.keep s (by simp [quP]), h.nm.keep s (by simp [quP]), h.rt.keep s (by simp [quP]), h.ol.keep s (by simp [quP]) (by simp [quP]) (by simp [quP]), h.cm.keep s (by simp [quP])⟩

theorem taken_step {wc w2 : World} {o : Obj} {L : Labs} {who g bq bm cn g2 cap2 : Nat} {tv dv nv rv ov : Value} {M : Ag} {b : Bat} (hA : AgRest wc L who g M bq bm cn tv dv nv rv ov) (hQ : QueuesAt wc L who bq (M.bs ++ [b]))
    (ho2 : w2.ownsRow 0 155 6 (.slice (some ⟨g2, 0, none⟩) (M.bs.length + 1) cap2) (M.bs.length + 1) (M.bs.flatMap Bat.cells ++ b.cells)) (hg2 : (wc.alloc o).drew.grownBy w2 tv.ownBlock) (hat2 : tv.ownBlock = some g2 ∨ g2 = wc.heap.size + 1) :
    ∃ L', AgentAt (w2.setCell ⟨g, 0, none⟩ (.slice (some ⟨g2, 0, none⟩) (M.bs.length + 1) cap2)) L' who g { M with bs := M.bs ++ [b] } ∧ Step (ofP who) L wc L' (w2.setCell ⟨g, 0, none⟩ (.slice (some ⟨g2, 0, none⟩) (M.bs.length + 1) cap2)) := by
  obtain ⟨a1, a2, a3, a4, a5, a6, a7⟩ := hA
  have s1 : Step (fun l => l = some (who, .tk)) L wc L (wc.alloc o).drew := (Step.alloc L wc o).trans (Step.drew L _)
  have s0 : Step (fun _ => False) L wc L (wc.alloc o).drew := (Step.alloc L wc o).trans (Step.drew L _)
  have a2' := a2.keep s0 (fun h => h)
  obtain ⟨hr2, hl2⟩ := a2'.appended ho2 (hat2.imp_right (fun e => by simp; omega))
  have s2 : Step (fun l => l = some (who, .tk)) L wc (lay L g2 (some (who, .tk))) w2 := s1.trans (Step.of_grown hg2 (fun j hj => a2'.2 j hj) hl2)
  have b1 := a1.keep s2 (by simp)
  have s3 : Step (fun l => l = some (who, .ag)) (lay L g2 (some (who, .tk))) w2 (lay L g2 (some (who, .tk))) (w2.setCell ⟨g, 0, none⟩ (.slice (some ⟨g2, 0, none⟩) (M.bs.length + 1) cap2)) := Step.setCell _ _ _ _ b1.2
  refine ⟨lay L g2 (some (who, .tk)), ⟨bq, bm, cn, .slice (some ⟨g2, 0, none⟩) (M.bs.length + 1) cap2, dv, nv, rv, ov, ?_, ?_, ?_, ?_, ?_, ?_, ?_, ?_⟩, (s2.mono (fun l h => ⟨_, h⟩)).trans (s3.mono (fun l h => ⟨_, h⟩))⟩
  · refine ⟨?_, b1.2⟩
    rw [← agCells_set0 bq bm tv]
    exact b1.1.set 0 _
  · have := hr2.keep s3 (by simp)
    simpa [List.flatMap_append] using this
  · exact (hQ.keep s2 (by simp) (by simp)).keep s3 (by simp) (by simp)
  · exact (a3.keep s2 (by simp)).keep s3 (by simp)
  · exact (a4.keep s2 (by simp)).keep s3 (by simp)
  · exact (a5.keep s2 (by simp)).keep s3 (by simp)
  · exact (a6.keep s2 (by simp) (by simp) (by simp)).keep s3 (by simp) (by simp) (by simp)
  · exact (a7.keep s2 (by simp)).keep s3 (by simp)

/-- Labels of blocks that are not there yet say nothing. -/
def clip (L : Labs) (n : Nat) : Labs := fun k => if k < n then L k else none
theorem Step.clipped {p : Lab → Prop} (L : Labs) (w : World) : Step p L w (clip L w.heap.size) w := ⟨rfl, rfl, rfl, Nat.le_refl _, fun _ hk => if_pos hk, fun _ _ _ => rfl⟩
theorem clip_none (L : Labs) {n k : Nat} (h : n ≤ k) : clip L n k = none := if_neg (by omega)

set_option maxRecDepth 100000 in
set_option maxHeartbeats 2000000 in
theorem take_core (L : Labs) (who g : Nat) (M : Ag) (b : Bat) (w : World) (hLn : ∀ k, w.heap.size ≤ k → L k = none) (hA : AgentAt w L who g M) (hb : M.bs.length < 120) (hd : 0 ≤ b.dst ∧ b.dst < 4) (ht : b.ten.length ≤ 16) (hid : b.id.length ≤ 16) (hbo : b.body.length ≤ 63) :
    Calls Tryz.prog 136 #[.pointer (some ⟨g, 0, none⟩), evVal b] w fun e w' => e = .returned (.tuple #[]) ∧ ∃ L', AgentAt w' L' who g { M with bs := M.bs ++ [b.fresh] } ∧ Step (ofP who) L w L' w' := by
  obtain ⟨bq, bm, cn, tv, dv, nv, rv, ov, h⟩ := hA
  obtain ⟨ta, tc, rfl, _⟩ := h.tk.shape
  have HA := hide h
  have hgl := h.blk.1.lt
  have HOb := hide (fun w => ownBatch_any b w ht hid hbo)
  unfold evVal
  unfold batVal at HOb
  clear h
  go_enter Tryz.func136, Tryz.ntmps136
  go_wp2_with fail
  refine (HOb.out _).mono ?_
  rintro e w1 ⟨rfl, hb1⟩
  have HB1 : Hid (Below w.heap.size w w1) := ((Below.refl _ _).alloc (Nat.le_refl _) _).trans (hb1.mono (by simp))
  clear hb1
  go_wp2_with fail
  obtain ⟨i0, hi, hz0, hz1, hz2⟩ := info_parts infoI64
  generalize hV : World.alloc (World.alloc w1 _) _ = V
  have hBV : Below w.heap.size w V := by rw [← hV]; exact (HB1.out.alloc HB1.out.size _).alloc (by simp; exact Nat.le_succ_of_le HB1.out.size) _
  have hN4 : Blk V w1.heap.size #[.int .i64 b.dst, encStr b.ten, encStr b.id, encStr b.body] 45 := by rw [← hV]; exact (Blk.new w1 _ _).alloc _
  have hN5 : Blk V (w1.heap.size + 1) #[.int .i64 b.dst, encStr b.ten] 202 := by rw [← hV]; exact Blk.made (by simp) _ _
  have hAV := HA.out.keep (Step.of_below (p := fun _ => False) (L := L) hBV) (fun _ h => h)
  have c0 : V.cell? ⟨g, 0, none⟩ = some (.slice ta M.bs.length tc) := hAV.blk.1.cell 0
  have c1 : V.cell? ⟨g, 1, none⟩ = some (.map (some bq)) := hAV.blk.1.cell 1
  have l0 : V.cell? ⟨w1.heap.size + 1, 0, none⟩ = some (.int .i64 b.dst) := hN5.cell 0
  have l1 : V.cell? ⟨w1.heap.size + 1, 1, none⟩ = some (encStr b.ten) := hN5.cell 1
  have c0' := fun o => cell?_alloc_old o c0
  have c1' := fun o => cell?_alloc_old o c1
  have l0' := fun o => cell?_alloc_old o l0
  have l1' := fun o => cell?_alloc_old o l1
  obtain ⟨D, hq, hsz, h4, hhas, hrow⟩ := hAV.qs
  have hlo : LaneOk b.dst b.ten := laneOk_small hd.1 hd.2 (by unfold maxLen; omega)
  have hbs : M.bs.length ≤ 120 := by omega
  obtain ⟨qa, ql, qc, st, wE, hrE, hhd, hgE, hback⟩ := entry_queue (w := (V.alloc (.cells #[.int .i64 M.bs.length] 3)).drew) (hq.1.alloc _) (by unfold maxLen; omega) hlo
  have hr0 := hrow b.dst b.ten hlo
  rw [hhd] at hr0
  have hql : ql = (pend M.bs b.dst b.ten).length := by
    obtain ⟨a', c', e', _⟩ := hr0.shape
    simp at e'
    exact e'.2.1
  have hqle : ql ≤ 120 := by rw [hql]; exact Nat.le_trans (pend_le _ _ _) hbs
  rw [← hql] at hr0
  have hSE : Step (fun l => l = some (who, .qm)) L V L wE := (Step.alloc L V _).trans ((Step.drew L _).trans (Step.of_grown hgE (fun j hj => by cases hj; exact hq.2) (fun _ _ => rfl)))
  have hrE0 := hr0.keep hSE (by simp)
  have hnE : wE.heap[V.heap.size]? = some (.cells #[.int .i64 M.bs.length] 3 (0, 0)) := by
    rw [hgE.block V.heap.size (by simp) (fun e => by have := hq.1.lt; simp at e; omega)]
    exact obj_new rfl _
  simp only [laneVal] at hrE
  have HAV := hide hAV
  have HBV := hide hBV
  have HN4 := hide hN4
  have HD := hide (And.intro hq (And.intro hsz (And.intro h4 (And.intro hhas hrow))))
  have HhE := hide hhd
  have HSE := hide hSE
  have Hr0 := hide hr0
  have HrE := hide hrE0
  have Hback := hide hback
  have HnE := hide hnE
  have Hql := hide hql
  have hzE : V.heap.size < wE.heap.size := (Array.getElem?_eq_some_iff.1 hnE).1
  have hqlt := hq.1.lt
  have HbqE : Hid (∀ w2 : World, wE.grownBy w2 (Value.slice qa ql qc).ownBlock → w2.heap[bq]? = wE.heap[bq]?) := fun w2 hg => hg.block bq (by omega) (fun e => by
    have := hrE0.2 bq e.symm
    rw [(hSE.lab bq hqlt), hq.2] at this
    simp at this)
  clear hAV hBV hN4 hN5 hq hsz h4 hhas hrow hhd hgE hback hr0 hql hSE hrE0 hnE hV
  go_upto_region 3 with fail
  go_cut [] (fun wx => Queued V L wx who bq (M.bs ++ [b.fresh]))
  case first =>
   go_region_law (refine step_append_lies _ (by rfl) _ _ _ (by rfl) 0 3 i0 (.int .i64 0) 1 8 Tryz.underlying51 hi hz0 hz1 hz2 rfl (by omega) (.slice qa ql qc) ql _ (by rfl) HrE.out.1 ⟨V.heap.size, 0, none⟩ 1 1 [.int .i64 M.bs.length] (by rfl) (by rfl) (World.news_of_block (cs := #[.int .i64 M.bs.length]) (t := 3) (fr := (0, 0)) HnE.out) (by simp [Value.oneCell']) (by omega) (by unfold maxLen; omega) (by omega) (Nat.zero_le _) wE.heap.size rfl ?_; intro g2 cap2 w2 hown2 hg2 hat2 hlt2; obtain ⟨w3, hrS, hown3, hg3⟩ := Hback.out w2 (some ⟨g2, 0, none⟩) (ql + 1) cap2 (HbqE.out w2 hg2); have Ho2 := hide hown2; have Hg2 := hide hg2; have Hat2 := hide hat2; have Ho3 := hide hown3; have Hg3 := hide hg3; clear hown2 hg2 hat2 hown3 hg3)
   all_goals (go_wp2_with fail; go_meet; exact queued_step hlo hd HD.out.1 HD.out.2.1 HD.out.2.2.1 HD.out.2.2.2.1 HD.out.2.2.2.2 HSE.out HrE.out Hql.out Ho2.out Hg2.out Hat2.out Ho3.out Hg3.out)
  case rest =>
  obtain ⟨L1, hs1, hQ1⟩ := hcut
  have hr := HAV.out.rest hs1
  have hbk : Blk wc w1.heap.size #[.int .i64 b.dst, encStr b.ten, encStr b.id, encStr b.body] 45 := by
    unfold Blk
    rw [hs1.block _ HN4.out.lt (by rw [hLn _ HB1.out.size]; simp [quP])]
    exact HN4.out
  have d0 : wc.cell? ⟨w1.heap.size, 0, none⟩ = some (.int .i64 b.dst) := hbk.cell 0
  have d1 : wc.cell? ⟨w1.heap.size, 1, none⟩ = some (encStr b.ten) := hbk.cell 1
  have d2 : wc.cell? ⟨w1.heap.size, 2, none⟩ = some (encStr b.id) := hbk.cell 2
  have d3 : wc.cell? ⟨w1.heap.size, 3, none⟩ = some (encStr b.body) := hbk.cell 3
  have t0 : wc.cell? ⟨g, 0, none⟩ = some (.slice ta M.bs.length tc) := hr.1.1.cell 0
  have HS1 : Hid (Step (ofP who) L w L1 wc) := (Step.of_below HBV.out).trans (hs1.mono (fun l h => by rcases h with h | ⟨_, _, h⟩ <;> exact ⟨_, h⟩))
  have HR1 := hide hr
  have HQ1 := hide hQ1
  have hgc : g < wc.heap.size := hr.1.1.lt
  have hbl : w1.heap.size < wc.heap.size := hbk.lt
  obtain ⟨i1, hi1, hy0, hy1, hy2⟩ := info_parts infoPBatch3
  clear hs1 hr hbk hQ1 c0 c1 c0' c1' l0 l1 l0' l1' hrE
  go_wp2_with fail
  go_region_law (refine step_append_lies _ (by rfl) _ _ _ (by rfl) 0 155 i1 _ 6 72 Tryz.underlying131 hi1 hy0 hy1 hy2 rfl (by omega) (.slice ta M.bs.length tc) M.bs.length (M.bs.flatMap Bat.cells) (by rfl) ((HR1.out.2.1.1.alloc _).drew) ⟨wc.heap.size, 0, none⟩ 1 1 b.fresh.cells (by rfl) (by rfl) (World.news_of_block (cs := b.fresh.cells.toArray) (t := 155) (fr := (0, 0)) (heap_alloc_new wc _)) (by simp [Value.oneCell', Bat.cells, encStr]) (by omega) (by unfold maxLen; omega) (by omega) (by omega) (wc.heap.size + 1) (by simp) ?_; intro g2 cap2 w2 hown2 hg2 hat2 hlt2; have hBk := Blk.grown (w := World.drew (World.alloc wc _)) (HR1.out.1.1.alloc _) hg2 (fun e => by have := HR1.out.2.1.2 g e.symm; rw [HR1.out.1.2] at this; simp at this); have z0 := hBk.cell 0; have y0 := hBk.frozen 0; simp [agCells] at z0; have HU := hide (taken_step HR1.out HQ1.out hown2 hg2 hat2); clear hBk hown2 hg2 hat2)
  all_goals
    go_wp2_with fail
    first | go_end0 | refine bodyPost_ret (results_none rfl _ _ _) rfl ?_
    obtain ⟨L2, hA2, hS2⟩ := HU.out
    exact ⟨rfl, L2, hA2, HS1.out.trans hS2⟩

theorem take_any (L : Labs) (who g : Nat) (M : Ag) (b : Bat) (w : World) (hA : AgentAt w L who g M) (hb : M.bs.length < 120) (hd : 0 ≤ b.dst ∧ b.dst < 4) (ht : b.ten.length ≤ 16) (hid : b.id.length ≤ 16) (hbo : b.body.length ≤ 63) :
    Calls Tryz.prog 136 #[.pointer (some ⟨g, 0, none⟩), evVal b] w fun e w' => e = .returned (.tuple #[]) ∧ ∃ L', AgentAt w' L' who g { M with bs := M.bs ++ [b.fresh] } ∧ Step (ofP who) L w L' w' := by
  refine (take_core (clip L w.heap.size) who g M b w (fun k hk => clip_none L hk) (hA.keep (Step.clipped (p := fun _ => False) L w) (fun _ h => h)) hb hd ht hid hbo).mono ?_
  rintro e w' ⟨rfl, L', h1, h2⟩
  exact ⟨rfl, L', h1, (Step.clipped L w).trans h2⟩
end Go.Proofs.YtojpjaifhjigfaaGreatDoor

/- play, record: one event happens, and is told in the log. -/
namespace Go.Proofs.YtojpjaifhjigfaaGreatDoor
open Go.RowKit Go.Maps

/-- What one agent's step is: it turned, and nobody else did. -/
def Turned (w : World) (L : Labs) (who g : Nat) (M : Ag) (w' : World) : Prop := ∃ L', AgentAt w' L' who g M ∧ Step (ofP who) L w L' w'

set_option maxRecDepth 100000 in
set_option maxHeartbeats 1000000 in
theorem play_take (L : Labs) (who g : Nat) (M : Ag) (b : Bat) (w : World) (hA : AgentAt w L who g M) (hb : M.bs.length < 120) (hd : 0 ≤ b.dst ∧ b.dst < 4) (ht : b.ten.length ≤ 16) (hid : b.id.length ≤ 16) (hbo : b.body.length ≤ 63) :
    Calls Tryz.prog 109 #[.pointer (some ⟨g, 0, none⟩), evVal b] w fun e w' => e = .returned (.tuple #[]) ∧ Turned w L who g { M with bs := M.bs ++ [b.fresh] } w' := by
  have HA : Hid (∀ w1 : World, Below w.heap.size w w1 → Calls Tryz.prog 136 #[.pointer (some ⟨g, 0, none⟩), evVal b] w1 fun e w' => e = .returned (.tuple #[]) ∧ Turned w L who g { M with bs := M.bs ++ [b.fresh] } w') := fun w1 hb1 => by
    refine (take_any L who g M b w1 (hA.keep (Step.of_below (p := fun _ => False) hb1) (fun _ h => h)) hb hd ht hid hbo).mono ?_
    rintro e w' ⟨rfl, L', h1, h2⟩
    exact ⟨rfl, L', h1, (Step.of_below hb1).trans h2⟩
  clear hA
  unfold evVal at *
  go_enter Tryz.func109, Tryz.ntmps109
  go_wp2_with fail
  have hB2 := fun o1 o2 => ((Below.refl w.heap.size w).alloc (Nat.le_refl _) o1).alloc (show w.heap.size ≤ _ by simp) o2
  go_region_with (first | (go_at_call 136; refine (HA.out _ (by first | exact hB2 _ _ | exact (hB2 _ _).drew)).mono ?_; rintro e w2 ⟨rfl, hT⟩) | fail)
  all_goals
    go_wp2_with fail
    first | go_end0 | refine bodyPost_ret (results_none rfl _ _ _) rfl ?_
    exact ⟨rfl, hT⟩

theorem agCells_set3 (bq bm : Nat) (tv dv nv rv ov : Value) (M : Ag) (l : List UInt8) : (agCells bq bm tv dv nv rv ov M).setIfInBounds 3 (encStr l) = agCells bq bm tv dv nv rv ov { M with log := l } := by
  apply Array.ext'
  rw [Array.toList_setIfInBounds]
  rfl
/-- The log grows: a cell of the agent. -/
theorem logged_step {w : World} {L : Labs} {who g : Nat} {M : Ag} (h : AgentAt w L who g M) (l : List UInt8) : Turned w L who g { M with log := l } (w.setCell ⟨g, 3, none⟩ (encStr l)) := by
  obtain ⟨bq, bm, cn, tv, dv, nv, rv, ov, h⟩ := h
  have s : Step (fun q => q = some (who, .ag)) L w L (w.setCell ⟨g, 3, none⟩ (encStr l)) := Step.setCell _ _ _ _ h.blk.2
  refine ⟨L, ⟨bq, bm, cn, tv, dv, nv, rv, ov, ⟨?_, h.blk.2⟩, h.tk.keep s (by simp), h.qs.keep s (by simp) (by simp), h.dd.keep s (by simp), h.nm.keep s (by simp), h.rt.keep s (by simp), h.ol.keep s (by simp) (by simp) (by simp), h.cm.keep s (by simp)⟩, s.mono (fun l h => ⟨_, h⟩)⟩
  rw [← agCells_set3]
  exact h.blk.1.set 3 _
theorem agent_frozen {w : World} {L : Labs} {who g : Nat} {M : Ag} (h : AgentAt w L who g M) (o : Nat) : w.frozen? ⟨g, o, none⟩ = false := by
  obtain ⟨bq, bm, cn, tv, dv, nv, rv, ov, h⟩ := h
  exact h.blk.1.frozen o
theorem agent_log {w : World} {L : Labs} {who g : Nat} {M : Ag} (h : AgentAt w L who g M) : w.cell? ⟨g, 3, none⟩ = some (encStr M.log) := by
  obtain ⟨bq, bm, cn, tv, dv, nv, rv, ov, h⟩ := h
  exact h.blk.1.cell 3

theorem run_concat (a b : List UInt8) (w : World) (h : a.length + b.length ≤ 1000000000000000) : (Op.stringOp .add ⟨a.toArray⟩ ⟨b.toArray⟩).run Tryz.prog w = .ok (encStr (a ++ b)) w := by
  have hn : ¬ (((ByteArray.mk a.toArray).size + (ByteArray.mk b.toArray).size : Nat) : Int) > IntKind.i64.max := by
    have h2 : IntKind.i64.max = 9223372036854775807 := rfl
    rw [h2]
    simp only [ByteArray.size, List.size_toArray]
    omega
  have e : ByteArray.mk a.toArray ++ ByteArray.mk b.toArray = ByteArray.mk (a ++ b).toArray := by
    apply ByteArray.ext
    simp
  unfold Op.stringOp
  simp only [if_neg hn, e]
  rfl

set_option maxRecDepth 100000 in
set_option maxHeartbeats 1000000 in
theorem record_take (L : Labs) (who g ge : Nat) (M : Ag) (b : Bat) (w : World) (hA : AgentAt w L who g M) (he : Blk w ge (evCells b).toArray 151) (hge : ¬ ofP who (L ge)) (hb : M.bs.length < 120) (hd : 0 ≤ b.dst ∧ b.dst < 4) (ht : b.ten.length ≤ 16) (hid : b.id.length ≤ 16) (hbo : b.body.length ≤ 63) (hlg : M.log.length ≤ 900000000000000) :
    Calls Tryz.prog 68 #[.pointer (some ⟨g, 0, none⟩), .slice (some ⟨ge, 0, none⟩) 1 1] w fun e w' => e = .returned (.tuple #[]) ∧ Turned w L who g { M with bs := M.bs ++ [b.fresh], log := M.log ++ recBytes b } w' := by
  have HP := hide (fun w1 (h1 : Below w.heap.size w w1) => play_take L who g M b w1 (hA.keep (Step.of_below (p := fun _ => False) h1) (fun _ h => h)) hb hd ht hid hbo)
  have HE := hide he
  unfold evVal at HP
  clear hA
  have hrl : (recBytes b).length ≤ 103 := by have := evBytes_le b ht hid hbo; simp [recBytes]; omega
  have hcat := fun w => run_concat M.log (recBytes b) w (by omega)
  clear hrl
  go_enter Tryz.func68, Tryz.ntmps68
  go_wp2_with fail
  refine wp_loop_rounds 2 ?_
  rw [rounds_succ]
  go_wp2_with (first
    | (refine wpList_load_mid rfl 151 _ rfl ge 0 rfl [.int .i64 0, .int .i64 b.dst, encStr b.ten, encStr b.id, encStr b.body, .int .i64 0, .int .i64 0] _ (HE.out.range 0 _ rfl) Tryz.underlying151 rfl infoEvent ?_)
    | fail)
  refine (HP.out _ ((Below.refl w.heap.size w).alloc (Nat.le_refl _) _)).mono ?_
  rintro e w2 ⟨rfl, L1, hA2, s2⟩
  have HS2 : Hid (Step (ofP who) L w L1 w2) := (Step.alloc L w _).trans s2
  have hlt2 := he.lt
  have hE2 : Blk w2 ge (evCells b).toArray 151 := by
    unfold Blk
    rw [HS2.out.block ge hlt2 hge]
    exact HE.out
  have hg2 : w2.cell? ⟨g, 3, none⟩ = some (encStr M.log) := by obtain ⟨bq, bm, cn, tv, dv, nv, rv, ov, h⟩ := hA2; exact h.blk.1.cell 3
  have hgl : g < w2.heap.size := World.block_lt_of_cell? w2 _ hg2
  have HA2 := hide hA2
  have HE2 := hide hE2
  clear hA2 hE2 s2 he hlt2
  go_wp2_with fail
  rw [rounds_succ]
  go_wp2_with fail
  go_region_with ((go_at_call 110; refine (written_take ge b _ (by exact HE2.out) hd ht hid hbo).mono ?_; rintro e w3 ⟨rfl, hb3'⟩; have hb3 : Below w2.heap.size w2 w3 := ((Below.refl w2.heap.size w2).drew).trans hb3'; have hA3 := HA2.out.keep (Step.of_below (p := fun _ => False) (L := L1) hb3) (fun _ h => h); have HB3 := hide hb3; have f3 : w3.frozen? ⟨g, 3, none⟩ = false := agent_frozen hA3 3; have hc3 : w3.cell? ⟨g, 3, none⟩ = some (encStr M.log) := (agent_log hA3 :); have HA3 := hide hA3; clear hA3 hb3 hb3'))
  all_goals
    go_wp2_with fail
    first | go_end0 | refine bodyPost_ret (results_none rfl _ _ _) rfl ?_
    obtain ⟨L4, hA4, hS4⟩ := logged_step HA3.out (M.log ++ recBytes b)
    exact ⟨rfl, L4, hA4, (HS2.out.trans (Step.of_below HB3.out)).trans hS4⟩
end Go.Proofs.YtojpjaifhjigfaaGreatDoor
