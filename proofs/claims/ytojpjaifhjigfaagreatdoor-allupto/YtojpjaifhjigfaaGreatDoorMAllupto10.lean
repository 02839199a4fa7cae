/- Steps of the proof (several texts in one): Ends2, Records. -/
import Derived.Test.YtojpjaifhjigfaaGreatDoorMAllupto09
import Derived.Deep.RegionHeld3

/- end, ack, die: a batch is taken out of its queue. -/
namespace Go.Proofs.YtojpjaifhjigfaaGreatDoor
open Go.RowKit Go.Maps

theorem modify_set {α : Type} (l : List α) (p : Nat) (f : α → α) (a : α) (h : l[p]? = some a) : l.modify p f = l.set p (f a) := by
  apply List.ext_getElem?
  intro i
  rw [List.getElem?_modify, List.getElem?_set]
  by_cases e : p = i
  · subst e
    have := (List.getElem?_eq_some_iff.1 h).1
    have h2 : l[p] = a := (List.getElem?_eq_some_iff.1 h).2
    simp [this, h2]
  · simp [e]

theorem pend_other {bs : List Bat} {p : Nat} {b : Bat} (hb : bs[p]? = some b) {d : Int} {t : List UInt8} (hne : ¬ (b.dst = d ∧ b.ten = t)) : (pend bs d t).filter (fun i => !(i == p)) = pend bs d t := by
  rw [List.filter_eq_self]
  intro i hi
  obtain ⟨b', h1, h2, h3, _⟩ := mem_pend.1 hi
  by_cases e : i = p
  · subst e
    rw [hb] at h1
    cases h1
    exact absurd ⟨h2, h3⟩ hne
  · simp [e]

theorem ended_step {V w2 w3 : World} {L : Labs} {who bq gq qc p k f : Nat} {bs : List Bat} {b : Bat} {D : DataW Value} (hb : bs[p]? = some b) (hk : k = 1 ∨ k = 3) (hst : b.st = 1) (hlo : LaneOk b.dst b.ten)
    (hq : OMapAt V L (some (who, .qm)) Tryz.prog 202 Rq bq (Maps.size D) D) (hsz : Maps.size D ≤ bs.length) (h4 : ∀ d t, LaneOk d t → Maps.has D (laneKey d t) = true → 0 ≤ d ∧ d < 4) (hhas : ∀ d t, LaneOk d t → pend bs d t ≠ [] → Maps.has D (laneKey d t) = true)
    (hrow : ∀ d t, LaneOk d t → RowAt V L (some (who, .qr d t)) 3 1 (hdr D d t) (pend bs d t).length (ints (pend bs d t)))
    (hr2 : RowAt w2 L (some (who, .qr b.dst b.ten)) 3 1 (.slice (some ⟨gq, 0, none⟩) ((pend bs b.dst b.ten).filter fun i => !(i == p)).length qc) ((pend bs b.dst b.ten).filter fun i => !(i == p)).length (ints ((pend bs b.dst b.ten).filter fun i => !(i == p))))
    (hs2 : Step (fun l => l = some (who, .qr b.dst b.ten)) L V L w2)
    (ho3 : w3.ownsMap Tryz.prog 202 Rq bq (Maps.size D + 1) (D.put (laneKey b.dst b.ten) (.held (.slice (some ⟨gq, 0, none⟩) ((pend bs b.dst b.ten).filter fun i => !(i == p)).length qc)))) (hg3 : w2.grownBy w3 (some bq)) :
    Step (quP who) L V L w3 ∧ QueuesAt w3 L who bq (bs.modify p (fun b => b.ended k f)) := by
  have hkl : WideAt.IsKeyLit (laneKey b.dst b.ten) := trivial
  have hpm : p ∈ pend bs b.dst b.ten := mem_pend.2 ⟨b, hb, rfl, rfl, hst⟩
  have hhd : Maps.has D (laneKey b.dst b.ten) = true := hhas _ _ hlo (fun e => by rw [e] at hpm; cases hpm)
  have s3 : Step (fun l => l = some (who, .qm)) L w2 L w3 := Step.of_grown hg3 (fun j hj => by cases hj; exact hq.2) (fun _ _ => rfl)
  refine ⟨(hs2.mono (fun l h => Or.inr ⟨_, _, h⟩)).trans (s3.mono (fun l h => Or.inl h)), _, ⟨ownsMap_tight ho3, hq.2⟩, ?_, ?_, ?_, ?_⟩
  · have := Maps.size_put (D := D) (k := laneKey b.dst b.ten) (hq.1.tidy lawLane) (.held (Value.slice (some ⟨gq, 0, none⟩) ((pend bs b.dst b.ten).filter fun i => !(i == p)).length qc))
    rw [this, hhd]
    simpa using hsz
  · intro d t hl h
    by_cases e : b.dst = d ∧ b.ten = t
    · rw [← e.1]; exact h4 _ _ hlo hhd
    · rw [Maps.has_put_other (laneKey_ne hl hlo (fun e' => e ⟨e'.1.symm, e'.2.symm⟩))] at h
      exact h4 d t hl h
  · intro d t hl h
    by_cases e : b.dst = d ∧ b.ten = t
    · rw [← e.1, ← e.2]; exact Maps.has_put_same hq.1.isMap hkl _
    · rw [Maps.has_put_other (laneKey_ne hl hlo (fun e' => e ⟨e'.1.symm, e'.2.symm⟩))]
      rw [pend_ended bs p k f hk, pend_other hb e] at h
      exact hhas d t hl h
  · intro d t hl
    rw [pend_ended bs p k f hk]
    by_cases e : b.dst = d ∧ b.ten = t
    · obtain ⟨rfl, rfl⟩ := e
      have e1 : hdr (D.put (laneKey b.dst b.ten) (.held (.slice (some ⟨gq, 0, none⟩) ((pend bs b.dst b.ten).filter fun i => !(i == p)).length qc))) b.dst b.ten = .slice (some ⟨gq, 0, none⟩) ((pend bs b.dst b.ten).filter fun i => !(i == p)).length qc := by
        unfold hdr; rw [Maps.atKey_put_same hq.1.isMap hkl]
      rw [e1]
      exact hr2.keep s3 (by simp)
    · have e1 : hdr (D.put (laneKey b.dst b.ten) (.held (.slice (some ⟨gq, 0, none⟩) ((pend bs b.dst b.ten).filter fun i => !(i == p)).length qc))) d t = hdr D d t := by
        unfold hdr; rw [Maps.atKey_put_other (laneKey_ne hl hlo (fun e' => e ⟨e'.1.symm, e'.2.symm⟩))]
      rw [e1, pend_other hb e]
      exact ((hrow d t hl).keep hs2 (fun h => e (by simp at h; exact ⟨h.1.symm, h.2.symm⟩))).keep s3 (by simp)

/-- An agent's parts beside its batches. -/
theorem AgAt.taken {w w' : World} {L L' : Labs} {who g : Nat} {M : Ag} {bq bm cn : Nat} {tv dv nv rv ov : Value} (h : AgAt w L who g M bq bm cn tv dv nv rv ov) (s : Step (tkP who) L w L' w') :
    BlkAt w' L' (some (who, .ag)) g (agCells bq bm tv dv nv rv ov M) 138 ∧ QueuesAt w' L' who bq M.bs ∧ RowAt w' L' (some (who, .dd)) 3 1 dv M.dead.length (ints M.dead) ∧ RowAt w' L' (some (who, .nm)) 9 1 nv M.ns.length (M.ns.map encStr) ∧
    RowAt w' L' (some (who, .rt)) 189 2 rv M.rt.length (M.rt.flatMap Ret.cells) ∧ OutsAt w' L' who M.c.th ov M.os ∧ OMapAt w' L' (some (who, .cm)) Tryz.prog 9 (plainElem Tryz.prog 3) bm cn M.D :=
  ⟨h.blk.keep s (by simp [tkP]), h.qs.keep s (by simp [tkP]) (by simp [tkP]), h.dd.keep s (by simp [tkP]), h.nm.keep s (by simp [tkP]), h.rt.keep s (by simp [tkP]), h.ol.keep s (by simp [tkP]) (by simp [tkP]) (by simp [tkP]), h.cm.keep s (by simp [tkP])⟩

theorem infoEv : (Tryz.prog.info? 151).map (·.size) = some 7 := by kernel_rfl

/-- A step that turns only what an agent owns: a block without a label stays. -/
theorem Step.free {p : Lab → Prop} {L L' : Labs} {w w' : World} (s : Step p L w L' w') {k : Nat} {cs : Array Value} {t : TypeId} (h : Blk w k cs t) (hn : ¬ p (L k)) : Blk w' k cs t := by
  unfold Blk
  rw [s.block k h.lt hn]
  exact h

set_option maxRecDepth 100000 in
set_option maxHeartbeats 1000000 in
theorem end_core (L : Labs) (who g gt gk bq bm cn k : Nat) (dv nv rv ov : Value) (M : Ag) (e : Ev) (b : Bat) (sv : Int) (w : World) (hLn : ∀ k, w.heap.size ≤ k → L k = none) (hA : AgAt w L who g M bq bm cn (.slice (some ⟨gt, 0, none⟩) M.bs.length gk) dv nv rv ov)
    (hb : M.bs[e.pl]? = some b) (hst : b.st = 1) (hk : k = 1 ∨ k = 3) (hsv : sv = if k = 1 then 2 else 3) (h0 : 0 ≤ b.fl) (h1 : b.fl ≤ 1000) (hf : e.f ≤ 1000) (hd : 0 ≤ b.dst ∧ b.dst < 4) (ht : b.ten.length ≤ 16) (h120 : M.bs.length ≤ 120) :
    Calls Tryz.prog 157 #[.pointer (some ⟨g, 0, none⟩), e.val, .int .i64 sv] w fun r w' => r = .returned (.tuple #[]) ∧ AgAt w' L who g { M with bs := M.bs.modify e.pl (fun b => b.ended k e.f) } bq bm cn (.slice (some ⟨gt, 0, none⟩) M.bs.length gk) dv nv rv ov ∧ Step (ofP who) L w L w' := by
  have hpl : e.pl < M.bs.length := (List.getElem?_eq_some_iff.1 hb).1
  have hgl := hA.blk.1.lt
  have HA := hide hA
  have HFail := hide (fun o => fail_any L who g gt gk M.bs.length e b M.bs (w.alloc o) ((hA.blk.1.alloc o).cell 0) (hA.tk.keep (Step.alloc (p := fun _ => False) L w o) (fun h => h)) hb hpl h0 h1 hf)
  have Hb := hide hb
  have HLn := hide hLn
  have Hst := hide hst
  have Hsv := hide hsv
  have hlo : LaneOk b.dst b.ten := laneOk_small hd.1 hd.2 (by unfold maxLen; omega)
  have hpI : (e.pl : Int) < (M.bs.length : Int) := by omega
  unfold Ev.val at HFail
  unfold Ev.val
  clear hA hb hLn hst hsv
  obtain ⟨ek, eb, p, f⟩ := e
  simp only at *
  generalize hn : M.bs.length = n at *
  have Hn := hide hn
  clear hn
  go_enter Tryz.func157, Tryz.ntmps157
  go_wp2_with (first
    | (refine wpList_load_mid rfl 151 _ rfl w.heap.size 0 rfl [.int .i64 ek, .int .i64 eb.dst, encStr eb.ten, encStr eb.id, encStr eb.body, .int .i64 p, .int .i64 f] _ ((Blk.new w _ _).range 0 _ rfl) Tryz.underlying151 rfl infoEv ?_)
    | fail)
  refine (HFail.out _).mono ?_
  rintro r w1 ⟨rfl, hr1, hs1⟩
  have hS1 : Step (tkP who) L w L w1 := (Step.alloc L w _).trans hs1
  have hE1 : Blk w1 w.heap.size #[.int .i64 ek, .int .i64 eb.dst, encStr eb.ten, encStr eb.id, encStr eb.body, .int .i64 p, .int .i64 f] 151 := hs1.free (Blk.new w _ _) (by rw [HLn.out _ (Nat.le_refl _)]; simp [tkP])
  have c0 : w1.cell? ⟨g, 0, none⟩ = some (.slice (some ⟨gt, 0, none⟩) n gk) := (HA.out.taken hS1).1.1.cell 0
  have k5 : w1.cell? ⟨w.heap.size, 5, none⟩ = some (.int .i64 p) := hE1.cell 5
  have hb1 : (M.bs.set p { b with fl := b.fl + f })[p]? = some { b with fl := b.fl + f } := by
    rw [List.getElem?_set_self (by have := (List.getElem?_eq_some_iff.1 Hb.out).1; simpa using this)]
  have HU2 := hide (Bat.put (b' := { b with fl := b.fl + f, st := sv }) (v := .int .i64 sv) hr1 hb1 (j := 4) (by omega) rfl)
  obtain ⟨g', e', hltt, hlabt, hcellt, hfzt⟩ := hr1.head (by omega)
  obtain rfl : gt = g' := by simpa using e'
  have t4 : w1.cell? ⟨gt, p * 6 + 4, none⟩ = some (.int .i64 b.st) := hcellt _ _ (flat_cell Bat.cells 6 Bat.cells_length hb1 (by omega) rfl)
  have t0 : w1.cell? ⟨gt, p * 6, none⟩ = some (.int .i64 b.dst) := hcellt (p * 6 + 0) _ (flat_cell Bat.cells 6 Bat.cells_length hb1 (by omega) rfl)
  have t1 : w1.cell? ⟨gt, p * 6 + 1, none⟩ = some (encStr b.ten) := hcellt _ _ (flat_cell Bat.cells 6 Bat.cells_length hb1 (by omega) rfl)
  have f4 := hfzt (p * 6 + 4)
  have HS1 := hide hS1
  have HE1 := hide hE1
  have Hb1 := hide hb1
  have hel := hE1.lt
  have HNe : Hid (gt ≠ w.heap.size) := fun e => by
    rw [e, HLn.out _ (Nat.le_refl _)] at hlabt
    cases hlabt
  clear hr1 hs1 hS1 hE1 hcellt hfzt e' hb1 hlabt
  go_upto_region 4 with (go_quiet (fail))
  go_cut [7] (fun s7 wx => ∃ gl, s7 = .pointer (some ⟨gl, 0, none⟩) ∧ w.heap.size < gl ∧ Blk wx gl #[.int .i64 b.dst, encStr b.ten] 202 ∧ Blk wx w.heap.size #[.int .i64 ek, .int .i64 eb.dst, encStr eb.ten, encStr eb.id, encStr eb.body, .int .i64 p, .int .i64 f] 151 ∧
    RowAt wx L (some (who, .tk)) 155 6 (.slice (some ⟨gt, 0, none⟩) n gk) n ((M.bs.set p { b with fl := b.fl + f, st := sv }).flatMap Bat.cells) ∧ Step (tkP who) L w L wx)
  case first =>
    go_region
    all_goals
      go_wp2_with fail
      go_meet
      refine ⟨w1.heap.size, rfl, hel, Blk.made (by simp) _ _, ((((HE1.out.drewN _).other ⟨gt, p * 6 + 4, none⟩ (.int .i64 sv) (fun e => HNe.out e.symm)).alloc _).drewN 1), ?_, ?_⟩
      · have hs : Step (fun _ => False) L (w1.setCell ⟨gt, p * 6 + 4, none⟩ (.int .i64 sv)) L ((((w1.drewN nq).setCell ⟨gt, p * 6 + 4, none⟩ (.int .i64 sv)).alloc (.cells #[.int .i64 b.dst, encStr b.ten] 202)).drew) := (Step.drewN L _ nq).trans ((Step.alloc L _ _).trans (Step.drew L _))
        have := HU2.out.1.keep hs (fun h => h)
        rw [List.set_set] at this
        exact this
      · have hs : Step (tkP who) L (w1.setCell ⟨gt, p * 6 + 4, none⟩ (.int .i64 sv)) L ((((w1.drewN nq).setCell ⟨gt, p * 6 + 4, none⟩ (.int .i64 sv)).alloc (.cells #[.int .i64 b.dst, encStr b.ten] 202)).drew) := (Step.drewN L _ nq).trans ((Step.alloc L _ _).trans (Step.drew L _))
        exact (HS1.out.trans HU2.out.2).trans hs
  case rest =>
  obtain ⟨gl, rfl, hgl', hNl, hEv, hrT, hST⟩ := hcut
  generalize hwc : wc = V at *
  clear hwc c0 k5 t4 t0 t1 f4
  obtain ⟨hB, hQ, hdd, hnm, hrt, hol, hcm⟩ := HA.out.taken hST
  obtain ⟨D, hq, hsz, h4, hhas, hrow⟩ := hQ
  obtain ⟨qa, ql, qc, hhd, hlook⟩ := look_queue hq.1 hlo
  have hr0 := hrow b.dst b.ten hlo
  rw [hhd] at hr0
  have hpm : p ∈ pend M.bs b.dst b.ten := mem_pend.2 ⟨b, Hb.out, rfl, rfl, Hst.out⟩
  obtain ⟨ps, hps⟩ : ∃ ps, pend M.bs b.dst b.ten = ps := ⟨_, rfl⟩
  have Hps := hide hps
  rw [hps] at hr0 hpm
  have hql : ql = ps.length := by
    obtain ⟨a', c', e', _⟩ := hr0.shape
    simp at e'
    exact e'.2.1
  subst hql
  have hp0 : 0 < ps.length := List.length_pos_of_mem hpm
  obtain ⟨gq, rfl, hgq, hlq, _, _⟩ := hr0.head hp0
  have c1 : V.cell? ⟨g, 1, none⟩ = some (.map (some bq)) := hB.1.cell 1
  have l0 : V.cell? ⟨gl, 0, none⟩ = some (.int .i64 b.dst) := hNl.cell 0
  have l1 : V.cell? ⟨gl, 1, none⟩ = some (encStr b.ten) := hNl.cell 1
  have hlk := hlook V.drew _ hq.1
  simp only [laneVal] at hlk
  have hLe : L w.heap.size = none := HLn.out _ (Nat.le_refl _)
  have hLl : L gl = none := HLn.out _ (by omega)
  have hneq : w.heap.size ≠ gq := fun e => by rw [← e, hLe] at hlq; cases hlq
  have HDel : Hid (∀ w0, w0 = V ∨ w0 = V.drew → Calls Tryz.prog 173 #[.slice (some ⟨gq, 0, none⟩) ps.length qc, .func (.func 174) #[] #[.pointer (some ⟨w.heap.size, 0, none⟩)]] w0 fun e w' => e = .returned (.slice (some ⟨gq, 0, none⟩) (ps.filter fun i => !(i == p)).length qc) ∧
      RowAt w' L (some (who, .qr b.dst b.ten)) 3 1 (.slice (some ⟨gq, 0, none⟩) (ps.filter fun i => !(i == p)).length qc) (ps.filter fun i => !(i == p)).length (ints (ps.filter fun i => !(i == p))) ∧ Step (fun x => x = some (who, .qr b.dst b.ten)) L V L w') := fun w0 h0 => by
    have hs0 : Step (fun x => x = some (who, .qr b.dst b.ten)) L V L w0 := by
      rcases h0 with rfl | rfl
      · exact Step.refl _ _ _
      · exact Step.drew L _
    have hs1 : Step (fun _ => False) L V L w0 := by
      rcases h0 with rfl | rfl
      · exact Step.refl _ _ _
      · exact Step.drew L _
    refine (deleteFunc_any L _ gq qc p w.heap.size ps w0 (hr0.keep hs1 (fun h => h)) ((hs1.free hEv (fun h => h)).cell 5) hneq).mono ?_
    rintro e w' ⟨rfl, h1, h2⟩
    exact ⟨rfl, h1, hs0.trans h2⟩
  have hqlt := hq.1.lt
  have HFacts : Hid (∀ w2, Step (fun x => x = some (who, .qr b.dst b.ten)) L V L w2 → w2.cell? ⟨g, 1, none⟩ = some (.map (some bq)) ∧ w2.cell? ⟨gl, 0, none⟩ = some (.int .i64 b.dst) ∧ w2.cell? ⟨gl, 1, none⟩ = some (encStr b.ten) ∧
      ∃ w3, (Instr.mapUpdate 132 (.map (some bq)) (.agg #[.int .i64 b.dst, encStr b.ten]) (.slice (some ⟨gq, 0, none⟩) (ps.filter fun i => !(i == p)).length qc)).run Tryz.prog w2 = .ok () w3 ∧
        w3.ownsMap Tryz.prog 202 Rq bq (Maps.size D + 1) (D.put (laneKey b.dst b.ten) (.held (.slice (some ⟨gq, 0, none⟩) (ps.filter fun i => !(i == p)).length qc))) ∧ w2.grownBy w3 (some bq) ∧ w3.cell? ⟨g, 1, none⟩ = some (.map (some bq)) ∧ w3.cell? ⟨gl, 0, none⟩ = some (.int .i64 b.dst) ∧ w3.cell? ⟨gl, 1, none⟩ = some (encStr b.ten)) := fun w2 hs => by
    refine ⟨(hB.keep hs (by simp)).1.cell 1, (hs.free hNl (by rw [hLl]; simp)).cell 0, (hs.free hNl (by rw [hLl]; simp)).cell 1, ?_⟩
    obtain ⟨w3, q1, q2, q3⟩ := (ownsMap_of_block hq.1 (hs.block bq hqlt (by rw [hq.2]; simp))).update lawLane Tryz.underlying132 (by have := hsz; rw [Hn.out] at this; unfold maxLen; omega) (val := .slice (some ⟨gq, 0, none⟩) (ps.filter fun i => !(i == p)).length qc) (d := .held (.slice (some ⟨gq, 0, none⟩) (ps.filter fun i => !(i == p)).length qc)) (ps := []) (keyOf_lane hlo) rfl
    have s3 : Step (fun l => l = some (who, .qm)) L w2 L w3 := Step.of_grown q3 (fun j hj => by cases hj; exact hq.2) (fun _ _ => rfl)
    have hs3 := (hs.mono (q := fun l => l = some (who, .qr b.dst b.ten) ∨ l = some (who, .qm)) (fun l h => Or.inl h)).trans (s3.mono (fun l h => Or.inr h))
    exact ⟨w3, q1, q2, q3, (hB.keep hs3 (by simp)).1.cell 1, (hs3.free hNl (by rw [hLl]; simp)).cell 0, (hs3.free hNl (by rw [hLl]; simp)).cell 1⟩
  have HFin : Hid (∀ w2 w3, RowAt w2 L (some (who, .qr b.dst b.ten)) 3 1 (.slice (some ⟨gq, 0, none⟩) (ps.filter fun i => !(i == p)).length qc) (ps.filter fun i => !(i == p)).length (ints (ps.filter fun i => !(i == p))) → Step (fun x => x = some (who, .qr b.dst b.ten)) L V L w2 →
      w3.ownsMap Tryz.prog 202 Rq bq (Maps.size D + 1) (D.put (laneKey b.dst b.ten) (.held (.slice (some ⟨gq, 0, none⟩) (ps.filter fun i => !(i == p)).length qc))) → w2.grownBy w3 (some bq) →
      AgAt w3 L who g { M with bs := M.bs.modify p (fun b => b.ended k f) } bq bm cn (.slice (some ⟨gt, 0, none⟩) n gk) dv nv rv ov ∧ Step (ofP who) L w L w3) := fun w2 w3 a1 a2 a3 a4 => by
    have hrow' := hrow
    rw [← hps] at a1 a3
    obtain ⟨s3, hQ3⟩ := ended_step (k := k) (f := f) Hb.out hk Hst.out hlo hq hsz h4 hhas hrow' a1 a2 a3 a4
    have em : M.bs.modify p (fun b => b.ended k f) = M.bs.set p { b with fl := b.fl + f, st := sv } := by
      rw [modify_set _ _ _ b Hb.out]
      congr 1
      rcases hk with rfl | rfl <;> simp [Bat.ended, Hsv.out]
    refine ⟨⟨hB.keep s3 (by simp [quP]), ?_, hQ3, hdd.keep s3 (by simp [quP]), hnm.keep s3 (by simp [quP]), hrt.keep s3 (by simp [quP]), hol.keep s3 (by simp [quP]) (by simp [quP]) (by simp [quP]), hcm.keep s3 (by simp [quP])⟩, (hST.mono (fun l h => ⟨_, h⟩)).trans (s3.mono (fun l h => by rcases h with h | ⟨_, _, h⟩ <;> exact ⟨_, h⟩))⟩
    show RowAt w3 L _ _ _ _ (M.bs.modify p (fun b => b.ended k f)).length ((M.bs.modify p (fun b => b.ended k f)).flatMap Bat.cells)
    rw [List.length_modify, Hn.out, em]
    exact hrT.keep s3 (by simp [quP])
  clear hB hdd hnm hrt hol hcm hq hsz h4 hhas hrow hhd hlook hr0 hpm hps hNl hEv hrT hST hlq hqlt hneq
  go_wp2_with fail
  go_region_held3 (fun w' => w'.cell? ⟨g, 1, none⟩ = some (.map (some bq)) ∧ w'.cell? ⟨gl, 0, none⟩ = some (.int .i64 b.dst) ∧ w'.cell? ⟨gl, 1, none⟩ = some (encStr b.ten)) (go_keep)
    (first
      | (go_at_call 173; refine (HDel.out _ (Or.inr rfl)).mono ?_; rintro e w2 ⟨rfl, hr2, hs2⟩; obtain ⟨c1', l0', l1', w3, hup, ho3, hg3, c1'', l0'', l1''⟩ := HFacts.out w2 hs2; have HF3 := hide (HFin.out w2 w3 hr2 hs2 ho3 hg3); clear hr2 hs2 ho3 hg3))
  all_goals
    go_wp2_with fail
    first | go_end0 | refine bodyPost_ret (results_none rfl _ _ _) rfl ?_
    exact ⟨rfl, HF3.out⟩

/-- What an event wants of the batch that it speaks of. -/
structure EvOk (M : Ag) (e : Ev) (b : Bat) : Prop where
  at' : M.bs[e.pl]? = some b
  st : b.st = 1
  f0 : 0 ≤ b.fl
  f1 : b.fl ≤ 1000
  f : e.f ≤ 1000
  d : 0 ≤ b.dst ∧ b.dst < 4
  t : b.ten.length ≤ 16

/-- The same with the row of batches found. -/
theorem AgentAt.parts {w : World} {L : Labs} {who g : Nat} {M : Ag} (h : AgentAt w L who g M) (h0 : 0 < M.bs.length) : ∃ gt gk bq bm cn dv nv rv ov, AgAt w L who g M bq bm cn (.slice (some ⟨gt, 0, none⟩) M.bs.length gk) dv nv rv ov := by
  obtain ⟨bq, bm, cn, tv, dv, nv, rv, ov, h⟩ := h
  obtain ⟨ta, tk, rfl, _⟩ := h.tk.shape
  obtain ⟨gt, rfl, _⟩ := h.tk.head h0
  exact ⟨gt, tk, bq, bm, cn, dv, nv, rv, ov, h⟩

set_option maxRecDepth 100000 in
set_option maxHeartbeats 1000000 in
theorem ack_core (L : Labs) (who g gt gk bq bm cn : Nat) (dv nv rv ov : Value) (M : Ag) (e : Ev) (b : Bat) (w : World) (hLn : ∀ k, w.heap.size ≤ k → L k = none) (hA : AgAt w L who g M bq bm cn (.slice (some ⟨gt, 0, none⟩) M.bs.length gk) dv nv rv ov) (he : EvOk M e b) (h120 : M.bs.length ≤ 120) :
    Calls Tryz.prog 137 #[.pointer (some ⟨g, 0, none⟩), e.val] w fun r w' => r = .returned (.tuple #[]) ∧ AgAt w' L who g { M with bs := M.bs.modify e.pl (fun b => b.ended 1 e.f) } bq bm cn (.slice (some ⟨gt, 0, none⟩) M.bs.length gk) dv nv rv ov ∧ Step (ofP who) L w L w' := by
  have HE : Hid (∀ o, Calls Tryz.prog 157 #[.pointer (some ⟨g, 0, none⟩), e.val, .int .i64 2] (w.alloc o) fun r w' => r = .returned (.tuple #[]) ∧ AgAt w' L who g { M with bs := M.bs.modify e.pl (fun b => b.ended 1 e.f) } bq bm cn (.slice (some ⟨gt, 0, none⟩) M.bs.length gk) dv nv rv ov ∧ Step (ofP who) L w L w') := fun o => by
    refine (end_core L who g gt gk bq bm cn 1 dv nv rv ov M e b 2 (w.alloc o) (fun k hk => hLn k (by simp at hk; omega)) (hA.keep (Step.alloc (p := fun _ => False) L w o) (fun _ h => h)) he.at' he.st (Or.inl rfl) rfl he.f0 he.f1 he.f he.d he.t h120).mono ?_
    rintro r w' ⟨rfl, h1, h2⟩
    exact ⟨rfl, h1, (Step.alloc L w o).trans h2⟩
  clear hA hLn he
  unfold Ev.val at *
  go_enter Tryz.func137, Tryz.ntmps137
  go_wp2_with (first
    | (refine wpList_load_mid rfl 151 _ rfl w.heap.size 0 rfl [.int .i64 e.kind, .int .i64 e.b.dst, encStr e.b.ten, encStr e.b.id, encStr e.b.body, .int .i64 e.pl, .int .i64 e.f] _ ((Blk.new w _ _).range 0 _ rfl) Tryz.underlying151 rfl infoEv ?_)
    | fail)
  refine (HE.out _).mono ?_
  rintro r w1 ⟨rfl, h1⟩
  have H1 := hide h1
  clear h1
  go_wp2_with fail
  first | go_end0 | refine bodyPost_ret (results_none rfl _ _ _) rfl ?_
  exact ⟨rfl, H1.out⟩

theorem agCells_set2 (bq bm : Nat) (tv dv dv' nv rv ov : Value) (M : Ag) (d : List Nat) : (agCells bq bm tv dv nv rv ov M).setIfInBounds 2 dv' = agCells bq bm tv dv' nv rv ov { M with dead := d } := by
  apply Array.ext'
  rw [Array.toList_setIfInBounds]
  rfl

theorem died_step {w1 w2 : World} {o : Obj} {L : Labs} {who g bq bm cn g2 cap2 p : Nat} {tv dv nv rv ov : Value} {M : Ag} (hA : AgAt w1 L who g M bq bm cn tv dv nv rv ov)
    (ho2 : w2.ownsRow 0 3 1 (.slice (some ⟨g2, 0, none⟩) (M.dead.length + 1) cap2) (M.dead.length + 1) (ints M.dead ++ [.int .i64 p])) (hg2 : (w1.alloc o).drew.grownBy w2 dv.ownBlock) (hat2 : dv.ownBlock = some g2 ∨ g2 = w1.heap.size + 1) :
    ∃ L', AgentAt (w2.setCell ⟨g, 2, none⟩ (.slice (some ⟨g2, 0, none⟩) (M.dead.length + 1) cap2)) L' who g { M with dead := M.dead ++ [p] } ∧ Step (ofP who) L w1 L' (w2.setCell ⟨g, 2, none⟩ (.slice (some ⟨g2, 0, none⟩) (M.dead.length + 1) cap2)) := by
  have s1 : Step (fun l => l = some (who, .dd)) L w1 L (w1.alloc o).drew := (Step.alloc L w1 o).trans (Step.drew L _)
  have s0 : Step (fun _ => False) L w1 L (w1.alloc o).drew := (Step.alloc L w1 o).trans (Step.drew L _)
  have a2' := hA.dd.keep s0 (fun h => h)
  obtain ⟨hr2, hl2⟩ := a2'.appended ho2 (hat2.imp_right (fun e => by simp; omega))
  have s2 : Step (fun l => l = some (who, .dd)) L w1 (lay L g2 (some (who, .dd))) w2 := s1.trans (Step.of_grown hg2 (fun j hj => a2'.2 j hj) hl2)
  have b1 := hA.blk.keep s2 (by simp)
  have s3 : Step (fun l => l = some (who, .ag)) (lay L g2 (some (who, .dd))) w2 (lay L g2 (some (who, .dd))) (w2.setCell ⟨g, 2, none⟩ (.slice (some ⟨g2, 0, none⟩) (M.dead.length + 1) cap2)) := Step.setCell _ _ _ _ b1.2
  refine ⟨lay L g2 (some (who, .dd)), ⟨bq, bm, cn, tv, .slice (some ⟨g2, 0, none⟩) (M.dead.length + 1) cap2, nv, rv, ov, ?_, (hA.tk.keep s2 (by simp)).keep s3 (by simp), (hA.qs.keep s2 (by simp) (by simp)).keep s3 (by simp) (by simp), ?_, (hA.nm.keep s2 (by simp)).keep s3 (by simp), (hA.rt.keep s2 (by simp)).keep s3 (by simp), (hA.ol.keep s2 (by simp) (by simp) (by simp)).keep s3 (by simp) (by simp) (by simp), (hA.cm.keep s2 (by simp)).keep s3 (by simp)⟩, (s2.mono (fun l h => ⟨_, h⟩)).trans (s3.mono (fun l h => ⟨_, h⟩))⟩
  · refine ⟨?_, b1.2⟩
    rw [← agCells_set2 bq bm tv dv]
    exact b1.1.set 2 _
  · have := hr2.keep s3 (by simp)
    simpa [ints] using this

theorem infoIntE : (Tryz.prog.info? 3).map (fun i => (i.zero, i.size, i.bytes)) = some (some (.int .i64 0), 1, 8) := by kernel_rfl

set_option maxRecDepth 100000 in
set_option maxHeartbeats 1000000 in
theorem die_core (L : Labs) (who g gt gk bq bm cn : Nat) (dv nv rv ov : Value) (M : Ag) (e : Ev) (b : Bat) (w : World) (hLn : ∀ k, w.heap.size ≤ k → L k = none) (hA : AgAt w L who g M bq bm cn (.slice (some ⟨gt, 0, none⟩) M.bs.length gk) dv nv rv ov) (he : EvOk M e b) (h120 : M.bs.length ≤ 120) (hdl : M.dead.length ≤ 1000) :
    Calls Tryz.prog 139 #[.pointer (some ⟨g, 0, none⟩), e.val] w fun r w' => r = .returned (.tuple #[]) ∧ Turned w L who g { M with bs := M.bs.modify e.pl (fun b => b.ended 3 e.f), dead := M.dead ++ [e.pl] } w' := by
  have HE : Hid (∀ o, Calls Tryz.prog 157 #[.pointer (some ⟨g, 0, none⟩), e.val, .int .i64 3] (w.alloc o) fun r w' => r = .returned (.tuple #[]) ∧ AgAt w' L who g { M with bs := M.bs.modify e.pl (fun b => b.ended 3 e.f) } bq bm cn (.slice (some ⟨gt, 0, none⟩) M.bs.length gk) dv nv rv ov ∧ Step (ofP who) L (w.alloc o) L w') := fun o =>
    end_core L who g gt gk bq bm cn 3 dv nv rv ov M e b 3 (w.alloc o) (fun k hk => hLn k (by simp at hk; omega)) (hA.keep (Step.alloc (p := fun _ => False) L w o) (fun _ h => h)) he.at' he.st (Or.inr rfl) rfl he.f0 he.f1 he.f he.d he.t h120
  have HLn := hide hLn
  obtain ⟨da, dk, rfl, _⟩ := hA.dd.shape
  clear hA hLn he
  unfold Ev.val at *
  go_enter Tryz.func139, Tryz.ntmps139
  go_wp2_with (first
    | (refine wpList_load_mid rfl 151 _ rfl w.heap.size 0 rfl [.int .i64 e.kind, .int .i64 e.b.dst, encStr e.b.ten, encStr e.b.id, encStr e.b.body, .int .i64 e.pl, .int .i64 e.f] _ ((Blk.new w _ _).range 0 _ rfl) Tryz.underlying151 rfl infoEv ?_)
    | fail)
  refine (HE.out _).mono ?_
  rintro r w1 ⟨rfl, hA1, hS1⟩
  have hE1 : Blk w1 w.heap.size #[.int .i64 e.kind, .int .i64 e.b.dst, encStr e.b.ten, encStr e.b.id, encStr e.b.body, .int .i64 e.pl, .int .i64 e.f] 151 := hS1.free (Blk.new w _ _) (by rw [HLn.out _ (Nat.le_refl _)]; rintro ⟨q, hq⟩; cases hq)
  have k5 : w1.cell? ⟨w.heap.size, 5, none⟩ = some (.int .i64 e.pl) := hE1.cell 5
  have c2 : w1.cell? ⟨g, 2, none⟩ = some (.slice da M.dead.length dk) := hA1.blk.1.cell 2
  have f2 := hA1.blk.1.frozen 2
  have hel := hE1.lt
  have hgl := hA1.blk.1.lt
  have HA1 := hide hA1
  have HS1 : Hid (Step (ofP who) L w L w1) := (Step.alloc L w _).trans hS1
  obtain ⟨i0, hi, hz0, hz1, hz2⟩ := info_parts infoIntE
  clear hA1 hS1 hE1
  go_wp2_with fail
  go_region_law (refine step_append_lies _ (by rfl) _ _ _ (by rfl) 0 3 i0 (.int .i64 0) 1 8 Tryz.underlying51 hi hz0 hz1 hz2 rfl (by omega) (.slice da M.dead.length dk) M.dead.length (ints M.dead) (by rfl) ((HA1.out.dd.1.alloc _).drew) ⟨w1.heap.size, 0, none⟩ 1 1 [.int .i64 e.pl] (by rfl) (by rfl) (World.news_of_block (cs := #[.int .i64 e.pl]) (t := 3) (fr := (0, 0)) (heap_alloc_new w1 _)) (by simp [Value.oneCell']) (by omega) (by unfold maxLen; omega) (by omega) (Nat.zero_le _) (w1.heap.size + 1) (by simp) ?_; intro g2 cap2 w2 hown2 hg2 hat2 hlt2; have hBk := Blk.grown (w := World.drew (World.alloc w1 _)) (HA1.out.blk.1.alloc _) hg2 (fun e => by have := HA1.out.dd.2 g e.symm; rw [HA1.out.blk.2] at this; simp at this); have z2 := hBk.cell 2; have y2 := hBk.frozen 2; simp [agCells] at z2; have HU := hide (died_step HA1.out hown2 hg2 hat2); clear hBk hown2 hg2 hat2)
  all_goals
    go_wp2_with fail
    first | go_end0 | refine bodyPost_ret (results_none rfl _ _ _) rfl ?_
    obtain ⟨L2, hA2, hS2⟩ := HU.out
    exact ⟨rfl, L2, hA2, HS1.out.trans hS2⟩
end Go.Proofs.YtojpjaifhjigfaaGreatDoor

/- appendEvent, written: the record of some events. -/
namespace Go.Proofs.YtojpjaifhjigfaaGreatDoor
open Go.RowKit Go.Maps

/-- An event whose bytes can be told. -/
def Ev.Tell (e : Ev) : Prop := (e.kind = 0 ∧ e.pl = 0 ∧ e.f = 0 ∧ 0 ≤ e.b.dst ∧ e.b.dst < 4 ∧ e.b.ten.length ≤ 16 ∧ e.b.id.length ≤ 16 ∧ e.b.body.length ≤ 63) ∨ (0 < e.kind ∧ e.kind < 4 ∧ e.pl < 256 ∧ e.f < 256)
theorem Ev.Tell.le {e : Ev} (h : e.Tell) : e.bytes.length ≤ 100 := by
  rcases h with ⟨h0, _, _, _, _, h1, h2, h3⟩ | ⟨h0, _⟩
  · unfold Ev.bytes; rw [if_pos h0]; exact evBytes_le _ h1 h2 h3
  · unfold Ev.bytes; rw [if_neg (by omega)]; simp
theorem Ev.Tell.pos {e : Ev} (h : e.Tell) : 0 < e.bytes.length := by
  rcases h with ⟨h0, _⟩ | ⟨h0, _⟩
  · unfold Ev.bytes; rw [if_pos h0]; simp [evBytes]
  · unfold Ev.bytes; rw [if_neg (by omega)]; simp

set_option maxRecDepth 100000 in
set_option maxHeartbeats 1000000 in
theorem appendEvent_other (v : Value) (n : Nat) (xs : List UInt8) (e : Ev) (w : World) (hown : w.ownsRow 0 5 1 v n (byts xs)) (hn : n ≤ 900000) (h0 : 0 < e.kind) (h1 : e.kind < 4) (hp : e.pl < 256) (hf : e.f < 256) :
    Calls Tryz.prog 140 #[v, e.val] w fun r w' => ∃ g cap, r = .returned (.slice (some ⟨g, 0, none⟩) (n + 3) cap) ∧ w'.ownsRow 0 5 1 (.slice (some ⟨g, 0, none⟩) (n + 3) cap) (n + 3) (byts (xs ++ [UInt8.ofNat e.kind, UInt8.ofNat e.pl, UInt8.ofNat e.f])) ∧ w.grownBy w' v.ownBlock ∧ (v.ownBlock = some g ∨ w.heap.size ≤ g) := by
  obtain ⟨i0, hi, hz0, hz1, hz2⟩ := info_parts infoByte
  obtain ⟨va, vk, rfl⟩ := ownsRow_shape hown
  have HO := hide hown
  obtain ⟨k, b, p, f⟩ := e
  simp only at *
  unfold Ev.val
  simp only
  have hkI : ¬ ((k : Int) = 0) := by omega
  have hk2 : (k : Int) < 256 := by omega
  have hp2 : (p : Int) < 256 := by omega
  have hf2 : (f : Int) < 256 := by omega
  clear hown
  go_enter Tryz.func140, Tryz.ntmps140
  go_wp2_with (first
    | (at_builtin; refine wpList_append_lies _ rfl _ _ 156 rfl 0 5 i0 (.int .u8 0) 1 1 Tryz.underlying156 hi hz0 hz1 hz2 rfl (by decide) _ _ _ rfl ((HO.out.alloc _).alloc _) ⟨w.heap.size + 1, 0, none⟩ 3 3 [.int .u8 k, .int .u8 p, .int .u8 f] rfl rfl (World.news_of_block (cs := #[.int .u8 k, .int .u8 p, .int .u8 f]) (t := 5) (fr := (0, 0)) (obj_new (by simp) _)) (by simp [Value.oneCell']) (by decide) (by unfold maxLen; omega) (by omega) (Nat.zero_le _) (w.heap.size + 2) (by simp) ?_; intro g1 cap1 w1 hown1 hg1 hat1 hlt1; have Ho1 := hide hown1; have Hg1 := hide hg1; have Hat1 := hide hat1; clear hown1 hg1 hat1)
    | fail)
  go_ret
  refine ⟨g1, cap1, rfl, ?_, (World.grownBy_alloc w _ _).andThen ((World.grownBy_alloc _ _ _).andThen Hg1.out (fun j hj => Or.inr hj)) (fun j hj => Or.inr hj), Hat1.out.imp id (fun e => by omega)⟩
  have := Ho1.out
  rw [byts_append]
  have e : byts [UInt8.ofNat k, UInt8.ofNat p, UInt8.ofNat f] = [.int .u8 k, .int .u8 p, .int .u8 f] := by
    simp only [byts, List.map_cons, List.map_nil, u8_of (show k < 256 by omega), u8_of hp, u8_of hf]
  rw [e]
  exact this

theorem appendEvent_any (v : Value) (n : Nat) (xs : List UInt8) (e : Ev) (w : World) (hown : w.ownsRow 0 5 1 v n (byts xs)) (hn : n ≤ 900000) (he : e.Tell) :
    Calls Tryz.prog 140 #[v, e.val] w fun r w' => ∃ g cap, r = .returned (.slice (some ⟨g, 0, none⟩) (n + e.bytes.length) cap) ∧ w'.ownsRow 0 5 1 (.slice (some ⟨g, 0, none⟩) (n + e.bytes.length) cap) (n + e.bytes.length) (byts (xs ++ e.bytes)) ∧ w.grownBy w' v.ownBlock ∧ (v.ownBlock = some g ∨ w.heap.size ≤ g) := by
  rcases he with ⟨h0, hp, hf, h1, h2, h3, h4, h5⟩ | ⟨h0, h1, hp, hf⟩
  · obtain ⟨k, b, p, f⟩ := e
    simp only at *
    subst h0 hp hf
    exact appendEvent_take v n xs b w hown hn ⟨h1, h2⟩ h3 h4 h5
  · have eb : e.bytes = [UInt8.ofNat e.kind, UInt8.ofNat e.pl, UInt8.ofNat e.f] := by unfold Ev.bytes; rw [if_neg (by omega)]
    rw [eb]
    exact appendEvent_other v n xs e w hown hn h0 h1 hp hf

theorem convert_rec {w : World} {g cap m : Nat} {by' : UInt8} {bs : List UInt8} (h : w.ownsRow 0 5 1 (.slice (some ⟨g, 0, none⟩) (3 + m) cap) (3 + m) ([.int .u8 by'.toNat, .int .u8 ((m / 256 : Nat) : Int), .int .u8 ((m % 256 : Nat) : Int)] ++ byts bs)) (hm : bs.length = m) (hm2 : m < 65536) :
    (convert 156 9 (.slice (some ⟨g, 0, none⟩) (3 + m) cap)).run Tryz.prog w = .ok (encStr ([by', UInt8.ofNat (m / 256), UInt8.ofNat (m % 256)] ++ bs)) w := by
  have hl : ([by', UInt8.ofNat (m / 256), UInt8.ofNat (m % 256)] ++ bs).length = 3 + m := by simp [hm]; omega
  have e : [.int .u8 by'.toNat, .int .u8 ((m / 256 : Nat) : Int), .int .u8 ((m % 256 : Nat) : Int)] ++ byts bs = byts ([by', UInt8.ofNat (m / 256), UInt8.ofNat (m % 256)] ++ bs) := by
    rw [byts_append]
    congr 1
    simp only [byts, List.map_cons, List.map_nil, u8_of (show m / 256 < 256 by omega), u8_of (show m % 256 < 256 by omega)]
  rw [e] at h
  rw [← hl]
  refine run_convert_bytes_back w 156 9 5 ⟨g, 0, none⟩ cap _ Tryz.underlying156 Tryz.underlying5 Tryz.underlying9 (fun j hj => ?_)
  exact h.cells (by simp [Value.ownBlock]) j _ (by simp only [byts, List.getElem?_map, List.getElem?_eq_getElem hj]; rfl)

/-- The cells of an event in a row. -/
theorem ev_range {w : World} {g n cap k : Nat} {es : List Ev} {e : Ev} (h : w.ownsRow 0 151 7 (.slice (some ⟨g, 0, none⟩) n cap) n (es.flatMap Ev.cells)) (he : es[k]? = some e) : w.rangeAt g (k * 7) e.cells := fun j u hu => by
  have hj : j < 7 := (List.getElem?_eq_some_iff.1 hu).1
  have := h.cells (show (Value.slice (some ⟨g, 0, none⟩) n cap).ownBlock = some g by simp [Value.ownBlock]) (k * 7 + j) u (flat_cell Ev.cells 7 Ev.cells_length he hj hu)
  rw [show (⟨g, 0, none⟩ : Addr).add (k * 7 + j) = ⟨g, k * 7 + j, none⟩ by unfold Addr.add; split <;> simp_all] at this
  exact this

set_option maxRecDepth 100000 in
set_option maxHeartbeats 2000000 in
theorem written_any (by' : UInt8) (v : Value) (es : List Ev) (w : World) (hown : w.ownsRow 0 151 7 v es.length (es.flatMap Ev.cells)) (hes : ∀ e ∈ es, e.Tell) (hl : (es.flatMap Ev.bytes).length ≤ 60000) :
    Calls Tryz.prog 110 #[.int .u8 by'.toNat, v] w fun r w' => r = .returned (encStr (recB by' es)) ∧ Below w.heap.size w w' := by
  obtain ⟨i0, hi, hz0, hz1, hz2⟩ := info_parts infoByte
  obtain ⟨va, vk, rfl⟩ := ownsRow_shape hown
  have hel : es.length ≤ 60000 := by
    have : ∀ l : List Ev, (∀ e ∈ l, e.Tell) → l.length ≤ (l.flatMap Ev.bytes).length := by
      intro l
      induction l with
      | nil => simp
      | cons a l ih =>
        intro h
        have h1 := (h a (by simp)).pos
        have h2 := ih (fun e he => h e (by simp [he]))
        simp only [List.flatMap_cons, List.length_append, List.length_cons]
        omega
    have := this es hes
    omega
  by_cases h0 : es = []
  · subst h0
    clear hown hes hl hel
    go_enter Tryz.func110, Tryz.ntmps110
    go_wp2_with fail
    go_ret
    exact ⟨rfl, Below.refl _ _⟩
  have hpos : 0 < es.length := List.length_pos_iff.2 h0
  obtain ⟨gv, cap, hve, _, _⟩ := hown.form hpos
  simp only [Value.slice.injEq, true_and] at hve
  obtain ⟨rfl, rfl⟩ := hve
  have hgv : gv < w.heap.size := (hown.lt gv (by simp [Value.ownBlock])).2
  have HE := hide hown
  have Hes := hide hes
  have HRec : Hid (recB by' es = [by', UInt8.ofNat ((es.flatMap Ev.bytes).length / 256), UInt8.ofNat ((es.flatMap Ev.bytes).length % 256)] ++ es.flatMap Ev.bytes) := by unfold recB; exact if_neg h0
  generalize hn : es.length = n at *
  have Hn := hide hn
  have hn0 : ¬ ((n : Int) = 0) := by omega
  have HLe : Hid (∀ k, ((es.take k).flatMap Ev.bytes).length ≤ 60000) := fun k => by
    have e : es.flatMap Ev.bytes = (es.take k).flatMap Ev.bytes ++ (es.drop k).flatMap Ev.bytes := by rw [← List.flatMap_append, List.take_append_drop]
    have := congrArg List.length e
    rw [List.length_append] at this
    omega
  clear hown hes hn h0
  go_enter Tryz.func110, Tryz.ntmps110
  go_wp2_with fail
  have Hpos := hide hpos
  rw [show ((n : Int) == 0) = false from beq_eq_false_iff_ne.2 (by omega)]
  clear hn0 hpos
  go_loopw [5, 7, 14] (fun t _ i wr => ∃ (k : Nat) (ta : Option Addr) (m tk : Nat), k ≤ n ∧ i = .int .i64 k ∧ t = .slice ta m tk ∧ m = ((es.take k).flatMap Ev.bytes).length ∧ wr.ownsRow 0 5 1 (.slice ta m tk) m (byts ((es.take k).flatMap Ev.bytes)) ∧ (∀ j, (Value.slice ta m tk).ownBlock = some j → w.heap.size ≤ j) ∧ Below w.heap.size w wr) (fun _ _ i _ => n - (intOf i).toNat)
  case atStart => exact ⟨0, none, 0, 0, Nat.zero_le _, rfl, rfl, rfl, World.ownsRow_nil _ _ _ _, fun j hj => by simp [Value.ownBlock] at hj, Below.refl _ _⟩
  case round =>
    obtain ⟨k, ta, m, tk, hk, rfl, rfl, hm, hr, hob, hnx⟩ := hrel
    have Hm := hide hm
    have Hr := hide hr
    have Hob := hide hob
    have Hnx := hide hnx
    have hm6 : m ≤ 60000 := by rw [hm]; exact HLe.out k
    clear hm hr hob hnx
    by_cases hlt : k < n
    · have hltI : (k : Int) < (n : Int) := by omega
      obtain ⟨e, he⟩ : ∃ e, es[k]? = some e := ⟨_, List.getElem?_eq_getElem (by rw [Hn.out]; exact hlt)⟩
      have HRg : Hid (wr.rangeAt gv (k * 7) e.cells) := fun j u hu => (Hnx.out.cell (p := ⟨gv, _, none⟩) hgv).trans (ev_range HE.out he j u hu)
      have heT : e.Tell := Hes.out e (List.mem_of_getElem? he)
      have HStep : Hid ((es.take (k + 1)).flatMap Ev.bytes = (es.take k).flatMap Ev.bytes ++ e.bytes) := by
        have h1 : k < es.length := (List.getElem?_eq_some_iff.1 he).1
        have h2 : es[k] = e := (List.getElem?_eq_some_iff.1 he).2
        show _ = _
        rw [List.take_succ_eq_append_getElem h1, List.flatMap_append, h2]
        simp
      have HAp := hide (fun o => appendEvent_any (.slice ta m tk) m ((es.take k).flatMap Ev.bytes) e (wr.alloc o) (Hr.out.alloc o) (by omega) heT)
      unfold Ev.val at HAp
      clear he heT
      go_wp2_with (first
        | (refine wpList_load_mid rfl 151 _ rfl gv (k * 7) rfl [.int .i64 e.kind, .int .i64 e.b.dst, encStr e.b.ten, encStr e.b.id, encStr e.b.body, .int .i64 e.pl, .int .i64 e.f] _ HRg.out Tryz.underlying151 rfl infoEv ?_)
        | fail)
      refine (HAp.out _).mono ?_
      rintro r w1 ⟨g1, cap1, rfl, ho1, hg1, hat1⟩
      have Ho1 := hide ho1
      have HB1 : Hid (Below w.heap.size w w1) := (Hnx.out.alloc Hnx.out.size _).grown hg1 (by simp; exact Nat.le_succ_of_le Hnx.out.size) (fun j hj => Hob.out j hj)
      have Hat1 : Hid (w.heap.size ≤ g1) := by
        rcases hat1 with h | h
        · exact Hob.out g1 h
        · have := Hnx.out.size
          simp at h
          exact (by omega : w.heap.size ≤ g1)
      clear ho1 hg1 hat1
      go_wp2_with fail
      go_roundw
      case rel =>
        refine ⟨k + 1, some ⟨g1, 0, none⟩, m + e.bytes.length, cap1, by omega, by go_num, rfl, ?_, ?_, fun j hj => ?_, HB1.out⟩
        · rw [HStep.out, List.length_append, Hm.out]
        · rw [HStep.out]; exact Ho1.out
        · obtain rfl : g1 = j := by simpa [Value.ownBlock] using hj
          exact Hat1.out
      case measure => simp [intOf]; omega
    · have hkn : k = n := by omega
      have htk : (es.take k) = es := List.take_of_length_le (by rw [Hn.out]; omega)
      rw [htk] at Hm Hr
      have hm1 : 0 < m := by
        rw [Hm.out]
        obtain ⟨a, l, rfl⟩ : ∃ a l, es = a :: l := by
          cases es with
          | nil => have := Hn.out; have := Hpos.out; simp at *; omega
          | cons a l => exact ⟨a, l, rfl⟩
        have := (Hes.out a (by simp)).pos
        simp only [List.flatMap_cons, List.length_append]
        omega
      obtain ⟨gt, ct, hte, _, _⟩ := Hr.out.form hm1
      simp only [Value.slice.injEq, true_and] at hte
      obtain ⟨rfl, rfl⟩ := hte
      have hbl : (byts (es.flatMap Ev.bytes)).length = m * 1 := by rw [Hm.out]; simp [byts]
      have hq1 : (m : Int) / 256 < 256 := by omega
      have hq0 : 0 ≤ (m : Int) / 256 := by omega
      clear htk
      have hd1 : (m : Int) / 256 = ((m / 256 : Nat) : Int) := by omega
      have hd2 : (m : Int) % 256 = ((m % 256 : Nat) : Int) := by omega
      have HD := hide (And.intro hd1 hd2)
      clear hd1 hd2
      go_wp2_with (first
        | (at_builtin; refine wpList_append_lies _ rfl _ _ 156 rfl 0 5 i0 (.int .u8 0) 1 1 Tryz.underlying156 hi hz0 hz1 hz2 rfl (by decide) (.slice (some ⟨wr.heap.size, 0, none⟩) 3 3) _ [.int .u8 by'.toNat, .int .u8 ((m : Int) / 256), .int .u8 ((m : Int) % 256)] rfl (head_row wr _ _ _) ⟨gt, 0, none⟩ m tk (byts (es.flatMap Ev.bytes)) rfl hbl (fun j u hu => cell?_alloc_old _ (Hr.out.cells (by simp [Value.ownBlock]) j u hu)) (fun u hu => by obtain ⟨x, _, rfl⟩ := List.mem_map.1 hu; rfl) (by omega) (by unfold maxLen; omega) (by omega) (Nat.zero_le _) (wr.heap.size + 1) (by simp) ?_; intro g2 cap2 w2 hown2 hg2 hat2 hlt2; have hcv := convert_rec (by rw [← HD.out.1, ← HD.out.2]; exact hown2) Hm.out.symm (by omega); have HB2 : Hid (Below w.heap.size w w2) := (Hnx.out.alloc Hnx.out.size _).grown hg2 (by simp; exact Nat.le_succ_of_le Hnx.out.size) (fun j hj => by (have e : wr.heap.size = j := by simpa [Value.ownBlock] using hj); rw [← e]; exact Hnx.out.size); clear hown2 hg2 hat2)
        | fail)
      go_ret
      rw [HRec.out, ← Hm.out]
      exact ⟨rfl, HB2.out⟩
end Go.Proofs.YtojpjaifhjigfaaGreatDoor
