/- Steps of the proof (several texts in one): OpenNew, Admit, Sending, Ends. -/
import Derived.Test.YtojpjaifhjigfaaGreatDoorMAllupto07
import Derived.Test.YtojpjaifhjigfaaGreatDoorMAllupto08
import Derived.Test.YtojpjaifhjigfaaGreatDoorMAllupto06
import Derived.Lib.OwnBridge

/- Open of an empty log: a new agent, labelled; or ErrConfig. -/
namespace Go.Proofs.YtojpjaifhjigfaaGreatDoor
open Go.RowKit Go.Maps

theorem infoRetry : (Tryz.prog.info? 189).map (fun i => (i.zero, i.size, i.bytes)) = some (some (.agg #[.int .i64 0, .int .i64 0]), 2, 16) := by kernel_rfl

/-- Nothing goes over where one of the two has no element, whatever the elements. -/
theorem run_copy_zero {P : Program} (w : World) (dT sT ty elem : TypeId) (d a : Addr) (dLen dCap sLen sCap : Nat) (hu : P.underlying dT = some (.slice elem)) {i : TypeInfo} (hs : P.info? elem = some i) (hn : Nat.min sLen dLen = 0) :
    (Builtin.copy_ #[dT, sT] ty #[.slice (some d) dLen dCap, .slice (some a) sLen sCap]).run P w = .ok (.int .i64 0) w := by
  have hl : ∀ (x : Addr), (loadCells x 0).run P w = .ok #[] w := fun x => by simpa using run_loadCells_list (P := P) w x [] (by simp)
  simp [Builtin.copy_, run_underlying hu, Builtin.lenOf, Builtin.firstCells, sizeOf, typeInfo, hs, hn, storeCells, hl, goInt]

set_option maxRecDepth 100000 in
set_option maxHeartbeats 1000000 in
theorem repeat_zero (gx : Nat) (w : World) : Calls Tryz.prog 107 #[.slice (some ⟨gx, 0, none⟩) 1 1, .int .i64 0] w fun e w' => e = .returned (.slice (some ⟨w.heap.size, 0, none⟩) 0 0) ∧ w' = w.alloc (.cells #[] 189) := by
  obtain ⟨i1, hi1, hy0, hy1, hy2⟩ := info_parts infoRetry
  have hmk : ∀ W : World, (Instr.makeSlice 135 (.int .i64 0) (.int .i64 0)).run Tryz.prog W = .ok (.slice (some ⟨W.heap.size, 0, none⟩) 0 0) (W.alloc (.cells #[] 189)) := fun W => by
    have := run_make (P := Tryz.prog) W 135 189 i1 _ Tryz.underlying135 hi1 hy0 .i64 .i64 0 0 (by omega) (by omega) (by rw [hy2]; omega) (by omega)
    rw [this]
    congr 3
    simp [madeCells]
  have H := fun w => hide (bitsMul_any 1 0 (by omega) (by omega) w)
  have hcp := fun W d => run_copy_zero (P := Tryz.prog) W 135 135 3 189 d ⟨gx, 0, none⟩ 0 0 1 1 Tryz.underlying135 hi1 (by decide)
  go_enter Tryz.func107, Tryz.ntmps107
  go_wp2_with fail
  refine (H _).out.mono ?_
  rintro e w' ⟨rfl, rfl⟩
  go_wp2_with fail
  refine wp_loop_rounds 1 ?_
  rw [rounds_succ]
  go_wp2_with fail
  go_ret
  exact ⟨rfl, rfl⟩

set_option maxRecDepth 100000 in
set_option maxHeartbeats 1000000 in
theorem replay_empty (g : Nat) (ba : Int) (w : World) (cur : Array Value) (hK : Blk w g cur 138) (h0 : cur[0]? = some (.slice none 0 0)) (h3 : cur[3]? = some (.string ⟨#[]⟩)) (h8 : cur[8]? = some (.int .i64 ba)) (h17 : cur[17]? = some (.slice none 0 0)) :
    Calls Tryz.prog 64 #[.pointer (some ⟨g, 0, none⟩), .string ⟨#[]⟩] w fun e w' => ∃ gr, e = .returned (.bool true) ∧ w.heap.size ≤ gr ∧ Blk w' g (cur.setIfInBounds 17 (.slice (some ⟨gr, 0, none⟩) 0 0)) 138 ∧ Blk w' gr #[] 189 ∧ (∀ q, q < w.heap.size → q ≠ g → w'.heap[q]? = w.heap[q]?) ∧ Below g w w' := by
  have c0 : w.cell? ⟨g, 0, none⟩ = some (.slice none 0 0) := (hK.cell 0).trans h0
  have c3 : w.cell? ⟨g, 3, none⟩ = some (.string ⟨#[]⟩) := (hK.cell 3).trans h3
  have c8 : w.cell? ⟨g, 8, none⟩ = some (.int .i64 ba) := (hK.cell 8).trans h8
  have c17 : w.cell? ⟨g, 17, none⟩ = some (.slice none 0 0) := (hK.cell 17).trans h17
  have f3 := hK.frozen 3
  have f17 := hK.frozen 17
  have hgl := hK.lt
  have HK := hide hK
  have H := fun w => hide (strClone_any ⟨#[]⟩ w (by simp [ByteArray.size]))
  clear hK h0 h3 h8 h17
  go_enter Tryz.func64, Tryz.ntmps64
  go_wp2_with fail
  refine wp_loop_rounds 1 ?_
  rw [rounds_succ]
  go_wp2_with fail
  refine (H _).out.mono ?_
  rintro e w1 ⟨rfl, hb1⟩
  have hb1w : Below w.heap.size w w1 := ((Below.refl _ _).alloc (Nat.le_refl _) _).trans (hb1.mono (by simp))
  have hK1 : Blk w1 g cur 138 := HK.out.below hb1w hgl
  have d3 : w1.cell? ⟨g, 3, none⟩ = some (.string ⟨#[]⟩) := (hb1w.cell (p := ⟨g, 3, none⟩) hgl).trans c3
  have e3 := hK1.frozen 3
  have hsame : cur.setIfInBounds 3 (.string ⟨#[]⟩) = cur := by
    have h3 := (HK.out.cell 3).symm.trans c3
    apply Array.ext_getElem?
    intro i
    rw [Array.getElem?_setIfInBounds]
    split
    · rename_i e
      subst e
      split
      · exact h3.symm
      · rename_i hl
        rw [Array.getElem?_eq_none (by omega)] at h3
        cases h3
    · rfl
  have Hb1 := hide hb1w
  have HK1 := hide hK1
  have Hs := hide hsame
  have Hc0 := hide ((HK.out.cell 0).symm.trans c0)
  have Hc8 := hide ((HK.out.cell 8).symm.trans c8)
  have Hc17 := hide ((HK.out.cell 17).symm.trans c17)
  clear hb1 hb1w hK1 hsame c0 c3 c8 c17 f3 f17
  go_wp2_with fail
  generalize hV : World.setCell w1 _ _ = V
  have hKV : Blk V g cur 138 := by
    rw [← hV, ← Hs.out]
    exact HK1.out.set 3 _
  have hzV : V.heap.size = w1.heap.size := by rw [← hV]; simp [World.setCell]
  have hoV : ∀ q, q < w.heap.size → q ≠ g → V.heap[q]? = w.heap[q]? := fun q hq hne => by
    rw [← hV, Below.heap_setCell _ _ _ _ hne]
    exact Hb1.out.block q hq
  have hBV : Below g w V := by rw [← hV]; exact (Hb1.out.mono (Nat.le_of_lt hgl)).setCell (Nat.le_refl _) _
  have k0 : V.cell? ⟨g, 0, none⟩ = some (.slice none 0 0) := (hKV.cell 0).trans Hc0.out
  have k8 : V.cell? ⟨g, 8, none⟩ = some (.int .i64 ba) := (hKV.cell 8).trans Hc8.out
  have k17 : V.cell? ⟨g, 17, none⟩ = some (.slice none 0 0) := (hKV.cell 17).trans Hc17.out
  have f17 := hKV.frozen 17
  have hgV := hKV.lt
  have n0 := World.new_ne V ⟨g, 0, none⟩ k0
  have n8 := World.new_ne V ⟨g, 8, none⟩ k8
  have n17 := World.new_ne V ⟨g, 17, none⟩ k17
  have m0 := fun v => ((hKV.set 17 v).cell 0).trans ((show (cur.setIfInBounds 17 v)[0]? = cur[0]? by simp).trans Hc0.out)
  have m8 := fun v => ((hKV.set 17 v).cell 8).trans ((show (cur.setIfInBounds 17 v)[8]? = cur[8]? by simp).trans Hc8.out)
  have HKV := hide hKV
  have HzV := hide hzV
  have HoV := hide hoV
  have HBV := hide hBV
  have Hz1 : Hid (w.heap.size ≤ w1.heap.size) := Hb1.out.size
  clear hV hKV hzV hoV hBV HK1 Hs d3 e3
  go_region_held3 (fun w' => w'.cell? ⟨g, 0, none⟩ = some (.slice none 0 0) ∧ w'.cell? ⟨g, 8, none⟩ = some (.int .i64 ba)) (go_keep)
    (first
      | (go_at_call 107; refine (repeat_zero _ _).mono ?_; rintro e w2 ⟨rfl, rfl⟩))
  all_goals
    go_wp2_with fail
    go_ret
    have hz := HzV.out
    have hz1 := Hz1.out
    refine ⟨V.heap.size + 1, rfl, by omega, ((HKV.out.set 17 _).alloc _).alloc _, Blk.made (by simp [World.setCell]) _ _, fun q hq hne => ?_, ?_⟩
    · show (World.alloc (World.alloc (World.setCell V _ _) _) _).heap[q]? = _
      rw [Below.heap_alloc _ _ _ (by simp [World.setCell]; omega), Below.heap_alloc _ _ _ (by simp [World.setCell]; omega), Below.heap_setCell _ _ _ _ hne]
      exact HoV.out q hq hne
    · exact (((HBV.out.setCell (Nat.le_refl _) _).alloc (by simp [World.setCell]; omega) _).alloc (by simp [World.setCell]; omega) _).drew

/-- The labels of what a new agent has brought. -/
def newLabs (L : Labs) (n : Nat) (w : World) (who bq : Nat) (fs : List (Value × Value)) : Labs := fun k =>
  if k < n then L k else match w.heap[k]? with
  | some (.cells _ t _) => if t = 138 then some (who, .ag) else if t = 149 then some (who, .ol) else if t = 9 then some (who, .nm) else if t = 23 then some (who, .th 0) else if t = 189 then some (who, .rt) else
      if t = 3 then some (who, .cr ((fs.findIdx? fun f => f.2.ownBlock == some k).getD 0)) else none
  | some (.map _ _) => if k = bq then some (who, .qm) else some (who, .cm)
  | _ => none
theorem newLabs_old (L : Labs) (n : Nat) (w : World) (who bq : Nat) (fs : List (Value × Value)) : ∀ k, k < n → newLabs L n w who bq fs k = L k := fun k hk => by simp [newLabs, hk]
theorem newLabs_none {L : Labs} {n : Nat} {w : World} {who bq : Nat} {fs : List (Value × Value)} {k : Nat} (hn : n ≤ w.heap.size) (hk : w.heap.size ≤ k) : newLabs L n w who bq fs k = none := by
  have h : w.heap[k]? = none := Array.getElem?_eq_none hk
  simp [newLabs, h, Nat.not_lt.2 (Nat.le_trans hn hk)]
theorem newLabs_cells {L : Labs} {n : Nat} {w : World} {who bq : Nat} {fs : List (Value × Value)} {k : Nat} {cs : Array Value} {t : TypeId} (hk : n ≤ k) (h : Blk w k cs t) : newLabs L n w who bq fs k =
    if t = 138 then some (who, .ag) else if t = 149 then some (who, .ol) else if t = 9 then some (who, .nm) else if t = 23 then some (who, .th 0) else if t = 189 then some (who, .rt) else
      if t = 3 then some (who, .cr ((fs.findIdx? fun f => f.2.ownBlock == some k).getD 0)) else none := by
  unfold Blk at h
  simp [newLabs, h, Nat.not_lt.2 hk]
theorem newLabs_map {L : Labs} {n : Nat} {w : World} {who bq : Nat} {fs : List (Value × Value)} {k : Nat} {es : Array MapEntry} {cl : Nat} (hk : n ≤ k) (h : w.heap[k]? = some (.map es cl)) : newLabs L n w who bq fs k = if k = bq then some (who, .qm) else some (who, .cm) := by
  simp [newLabs, h, Nat.not_lt.2 hk]

theorem queuesAt_empty {w : World} {L : Labs} {who b : Nat} (h : w.heap[b]? = some (.map #[] 0)) (hl : L b = some (who, .qm)) : QueuesAt w L who b [] := by
  refine ⟨.map [], ⟨?_, hl⟩, Nat.le_refl _, fun d t _ hh => by simp [Maps.has] at hh, fun d t _ hp => absurd (pend_nil d t) hp, fun d t _ => RowAt.nil _ _ _ _ _⟩
  obtain ⟨es, clock, hb, F, hs, hD⟩ := World.ownsMap_made w Tryz.prog 202 Rq
  rw [obj_new rfl] at hb
  cases hb
  exact ⟨#[], 0, h, F, hs, hD⟩

theorem apart_find {fs : List (Value × Value)} (h : Apart fs) {i : Nat} {f : Value × Value} {g : Nat} (hf : fs[i]? = some f) (hg : f.2.ownBlock = some g) : fs.findIdx? (fun f => f.2.ownBlock == some g) = some i := by
  rw [List.findIdx?_eq_some_iff_getElem]
  obtain ⟨h1, h2⟩ := List.getElem?_eq_some_iff.1 hf
  refine ⟨h1, by simp [h2, hg], fun j hj => ?_⟩
  have := h j i _ f hj (List.getElem?_eq_getElem (by omega)) hf
  rw [hg] at this
  simpa using this

theorem zip_flat (o : Out) : ∀ fs : List (Value × Value), ((List.replicate fs.length o).zip fs).flatMap (fun p => p.1.cells p.2.1 p.2.2) = fs.flatMap fun f => o.cells f.1 f.2
  | [] => rfl
  | f :: fs => by rw [List.length_cons, List.replicate_succ, List.zip_cons_cons, List.flatMap_cons, List.flatMap_cons, zip_flat o fs]

/-- A new agent, behind replay of an empty log, with its labels. -/
theorem agentAt_new {w w1 w2 : World} {c : Cfg} {D : DataW Unit} {g bq bm cn go gr : Nat} {nv : Value} {ns : List (List UInt8)} {fs : List (Value × Value)} (L : Labs) (who : Nat) (h : NewAg w w1 c D g bq bm cn go nv ns fs) (hgr : w1.heap.size ≤ gr) (hsz : Maps.size D = ns.length)
    (hK : Blk w2 g ((agCells bq bm (.slice none 0 0) (.slice none 0 0) nv (.slice none 0 0) (.slice (some ⟨go, 0, none⟩) c.d.toNat c.d.toNat) (Ag.new c D ns)).setIfInBounds 17 (.slice (some ⟨gr, 0, none⟩) 0 0)) 138) (hr : Blk w2 gr #[] 189)
    (ho : ∀ q, q < w1.heap.size → q ≠ g → w2.heap[q]? = w1.heap[q]?) : AgentAt w2 (newLabs L w.heap.size w2 who bq fs) who g (Ag.new c D ns) := by
  have hmap : ∀ (b : Nat) (es : Array MapEntry) (cl : Nat), w1.heap[b]? = some (.map es cl) → w2.heap[b]? = some (.map es cl) := fun b es cl hb => by
    rw [ho b (Array.getElem?_eq_some_iff.1 hb).1 (fun e => by subst e; have := h.blk; unfold Blk at this; rw [hb] at this; cases this)]
    exact hb
  have hblk : ∀ b cs t, Blk w1 b cs t → t ≠ 138 → Blk w2 b cs t := fun b cs t hb ht => by
    unfold Blk
    rw [ho b hb.lt (fun e => by subst e; have := h.blk; unfold Blk at this hb; rw [hb] at this; cases this; exact ht rfl)]
    exact hb
  have hw1 : w.heap.size ≤ w1.heap.size := h.bw.size
  refine ⟨bq, bm, cn, .slice none 0 0, .slice none 0 0, nv, .slice (some ⟨gr, 0, none⟩) 0 0, .slice (some ⟨go, 0, none⟩) c.d.toNat c.d.toNat, ?_⟩
  refine { blk := ⟨hK, by rw [newLabs_cells h.bg hK]; rfl⟩, tk := RowAt.nil _ _ _ _ _, qs := queuesAt_empty (hmap _ _ _ h.qm) (by rw [newLabs_map h.bbq (hmap _ _ _ h.qm)]; simp), dd := RowAt.nil _ _ _ _ _, nm := ?_, rt := ?_, ol := ?_, cm := ?_ }
  · refine ⟨⟨h.nm.1, ?_⟩, fun q hq => ?_⟩
    · rcases h.nm.2 with q | ⟨q, cap, cur, q1, q2, q3, q4⟩
      · exact Or.inl q
      · exact Or.inr ⟨q, cap, cur, q1, Nat.zero_le _, hblk _ _ _ q3 (by decide), q4⟩
    · rcases h.nm.2 with ⟨q1, _⟩ | ⟨q', cap, cur, q1, q2, q3, q4⟩
      · rw [q1] at hq; cases hq
      · rw [q1] at hq
        obtain rfl : q' = q := by simpa [Value.ownBlock] using hq
        rw [newLabs_cells q2 (hblk _ _ _ q3 (by decide))]
        rfl
  · refine ⟨⟨rfl, Or.inr ⟨gr, 0, #[], rfl, Nat.zero_le _, hr, Nat.le_refl _, Nat.zero_le _, rfl, rfl⟩⟩, fun q hq => ?_⟩
    obtain rfl : gr = q := by simpa [Value.ownBlock] using hq
    rw [newLabs_cells (by omega) hr]
    rfl
  · have hfl := h.fl
    refine ⟨fs, by simp [Ag.new, hfl], ?_, fun i o f hio hif => ?_⟩
    · have e : (Ag.new c D ns).os.length = c.d.toNat := by simp [Ag.new]
      have e2 : (((Ag.new c D ns).os.zip fs).flatMap fun p => p.1.cells p.2.1 p.2.2) = fs.flatMap fun f => (Out.zero (Maps.size D)).cells f.1 f.2 := by
        rw [← zip_flat, hfl, hsz]
        rfl
      rw [e, e2]
      refine ⟨⟨h.ol.1, ?_⟩, fun q hq => ?_⟩
      · rcases h.ol.2 with ⟨q, _⟩ | ⟨q, cap, cur, q1, q2, q3, q4⟩
        · cases q
        · exact Or.inr ⟨q, cap, cur, q1, Nat.zero_le _, hblk _ _ _ q3 (by decide), q4⟩
      · rcases h.ol.2 with ⟨q, _⟩ | ⟨q', cap, cur, q1, q2, q3, q4⟩
        · cases q
        · rw [q1] at hq
          obtain rfl : q' = q := by simpa [Value.ownBlock] using hq
          rw [newLabs_cells q2 (hblk _ _ _ q3 (by decide))]
          rfl
    · have hoz : o = Out.zero (Maps.size D) := by
        have := List.mem_of_getElem? hio
        simp only [Ag.new, List.mem_replicate] at this
        rw [this.2, hsz]
        rfl
      subst hoz
      obtain ⟨g1, g2, hf, b1, b2, k1, k2⟩ := h.md i f hif
      have hgo := h.bo
      refine ⟨g1, by rw [hf], ⟨hblk _ _ _ k1 (by decide), by rw [newLabs_cells (by omega) (hblk _ _ _ k1 (by decide))]; rfl⟩, ⟨?_, fun q hq => ?_⟩⟩
      · rw [hf]
        have e : (Out.zero (Maps.size D)).cr.length = Maps.size D := by simp [Out.zero]
        have e2 : intsI (Out.zero (Maps.size D)).cr = List.replicate (Maps.size D) (.int .i64 0) := by simp [Out.zero, intsI]
        rw [e, e2]
        refine ⟨k2.1, ?_⟩
        rcases k2.2 with ⟨q, _⟩ | ⟨q, cap, cur, q1, q2, q3, q4⟩
        · cases q
        · exact Or.inr ⟨q, cap, cur, q1, Nat.zero_le _, hblk _ _ _ q3 (by decide), q4⟩
      · have hfo : f.2.ownBlock = some g2 := by rw [hf]; rfl
        rw [hfo] at hq
        obtain rfl : g2 = q := by simpa using hq
        rcases k2.2 with ⟨q, _⟩ | ⟨q, cap, cur, q1, q2, q3, q4⟩
        · cases q
        · obtain rfl : g2 = q := by simpa using (by simpa using q1 : g2 = q ∧ _).1
          rw [newLabs_cells (by omega) (hblk _ _ _ q3 (by decide)), apart_find h.ap hif hfo]
          rfl
  · refine ⟨?_, ?_⟩
    · obtain ⟨es, cl, hb, r⟩ := h.cm
      exact ⟨es, cl, hmap _ _ _ hb, r⟩
    · obtain ⟨es, cl, hb, r⟩ := h.cm
      rw [newLabs_map h.bbm (hmap _ _ _ hb), if_neg (fun e => h.ne e.symm)]
end Go.Proofs.YtojpjaifhjigfaaGreatDoor

/- admit: a batch is taken, told in the log, and may go at once. -/
namespace Go.Proofs.YtojpjaifhjigfaaGreatDoor
open Go.RowKit Go.Maps

theorem agCells_set17 (bq bm : Nat) (tv dv nv rv rv' ov : Value) (M : Ag) (rt : List Ret) : (agCells bq bm tv dv nv rv ov M).setIfInBounds 17 rv' = agCells bq bm tv dv nv rv' ov { M with rt := rt } := by
  apply Array.ext'
  rw [Array.toList_setIfInBounds]
  rfl

theorem retried_step {wc w2 : World} {o : Obj} {L : Labs} {who g bq bm cn g2 cap2 : Nat} {tv dv nv rv ov : Value} {M : Ag} {r : Ret} (hA : AgAt wc L who g M bq bm cn tv dv nv rv ov)
    (ho2 : w2.ownsRow 0 189 2 (.slice (some ⟨g2, 0, none⟩) (M.rt.length + 1) cap2) (M.rt.length + 1) (M.rt.flatMap Ret.cells ++ r.cells)) (hg2 : (wc.alloc o).drew.grownBy w2 rv.ownBlock) (hat2 : rv.ownBlock = some g2 ∨ g2 = wc.heap.size + 1) :
    Turned wc L who g { M with rt := M.rt ++ [r] } (w2.setCell ⟨g, 17, none⟩ (.slice (some ⟨g2, 0, none⟩) (M.rt.length + 1) cap2)) := by
  have s1 : Step (fun l => l = some (who, .rt)) L wc L (wc.alloc o).drew := (Step.alloc L wc o).trans (Step.drew L _)
  have s0 : Step (fun _ => False) L wc L (wc.alloc o).drew := (Step.alloc L wc o).trans (Step.drew L _)
  have a2' := hA.rt.keep s0 (fun h => h)
  obtain ⟨hr2, hl2⟩ := a2'.appended ho2 (hat2.imp_right (fun e => by simp; omega))
  have s2 : Step (fun l => l = some (who, .rt)) L wc (lay L g2 (some (who, .rt))) w2 := s1.trans (Step.of_grown hg2 (fun j hj => a2'.2 j hj) hl2)
  have b1 := hA.blk.keep s2 (by simp)
  have s3 : Step (fun l => l = some (who, .ag)) (lay L g2 (some (who, .rt))) w2 (lay L g2 (some (who, .rt))) (w2.setCell ⟨g, 17, none⟩ (.slice (some ⟨g2, 0, none⟩) (M.rt.length + 1) cap2)) := Step.setCell _ _ _ _ b1.2
  refine ⟨lay L g2 (some (who, .rt)), ⟨bq, bm, cn, tv, dv, nv, .slice (some ⟨g2, 0, none⟩) (M.rt.length + 1) cap2, ov, ?_, ?_, ?_, ?_, ?_, ?_, ?_, ?_⟩, (s2.mono (fun l h => ⟨_, h⟩)).trans (s3.mono (fun l h => ⟨_, h⟩))⟩
  · refine ⟨?_, b1.2⟩
    rw [← agCells_set17 bq bm tv dv nv rv]
    exact b1.1.set 17 _
  · exact (hA.tk.keep s2 (by simp)).keep s3 (by simp)
  · exact (hA.qs.keep s2 (by simp) (by simp)).keep s3 (by simp) (by simp)
  · exact (hA.dd.keep s2 (by simp)).keep s3 (by simp)
  · exact (hA.nm.keep s2 (by simp)).keep s3 (by simp)
  · have := hr2.keep s3 (by simp)
    simpa [List.flatMap_append] using this
  · exact (hA.ol.keep s2 (by simp) (by simp) (by simp)).keep s3 (by simp) (by simp) (by simp)
  · exact (hA.cm.keep s2 (by simp)).keep s3 (by simp)

/-- An agent that has taken one more. -/
def Ag.taken (M : Ag) (b : Bat) : Ag := { M with bs := M.bs ++ [b.fresh], log := M.log ++ recBytes b, rt := M.rt ++ [⟨M.now, M.c.ba⟩] }

set_option maxRecDepth 100000 in
set_option maxHeartbeats 2000000 in
theorem admit_core (L : Labs) (who g : Nat) (M : Ag) (b : Bat) (w : World) (hLn : ∀ k, w.heap.size ≤ k → L k = none) (hA : AgentAt w L who g M) (hb : M.bs.length < 120) (hd : 0 ≤ b.dst ∧ b.dst < 4) (ht : b.ten.length ≤ 16) (hid : b.id.length ≤ 16) (hbo : b.body.length ≤ 63) (hlg : M.log.length ≤ 900000000000000) (hrt : M.rt.length ≤ 120) :
    Calls Tryz.prog 66 #[.pointer (some ⟨g, 0, none⟩), batVal b] w fun e w' => e = .returned (.tuple #[]) ∧ Turned w L who g (M.taken b) w' := by
  have HRec : Hid (∀ (w1 : World) (ge : Nat), Below w.heap.size w w1 → w.heap.size ≤ ge → Blk w1 ge (evCells b).toArray 151 → Calls Tryz.prog 68 #[.pointer (some ⟨g, 0, none⟩), .slice (some ⟨ge, 0, none⟩) 1 1] w1 fun e w' => e = .returned (.tuple #[]) ∧ Turned w L who g { M with bs := M.bs ++ [b.fresh], log := M.log ++ recBytes b } w') := fun w1 ge hb1 hge hE => by
    refine (record_take L who g ge M b w1 (hA.keep (Step.of_below (p := fun _ => False) hb1) (fun _ h => h)) hE (by rw [hLn ge hge]; rintro ⟨q, hq⟩; cases hq) hb hd ht hid hbo hlg).mono ?_
    rintro e w' ⟨rfl, L', h1, h2⟩
    exact ⟨rfl, L', h1, (Step.of_below hb1).trans h2⟩
  have hgl : g < w.heap.size := by obtain ⟨bq, bm, cn, tv, dv, nv, rv, ov, h⟩ := hA; exact h.blk.1.lt
  obtain ⟨i1, hi1, hy0, hy1, hy2⟩ := info_parts infoRetry
  have hB2 := fun o1 o2 => ((Below.refl w.heap.size w).alloc (Nat.le_refl _) o1).alloc (show w.heap.size ≤ _ by simp) o2
  have HE := fun o1 => hide (Blk.made (V := w.alloc o1) (n := w.heap.size + 1) (by simp) (evCells b).toArray 151)
  clear hA
  unfold batVal
  go_enter Tryz.func66, Tryz.ntmps66
  go_upto_region 1 with fail
  go_cut [] (fun wx => Turned w L who g { M with bs := M.bs ++ [b.fresh], log := M.log ++ recBytes b } wx)
  case first =>
    go_region_with ((go_at_call 68; refine (HRec.out _ (w.heap.size + 1) (by first | exact hB2 _ _ | exact (hB2 _ _).drew) (by omega) (by exact (HE _).out)).mono ?_; rintro e w2 ⟨rfl, hT⟩))
    all_goals (go_wp2_with fail; go_meet; exact hT)
  case rest =>
  obtain ⟨L1, ⟨bq, bm, cn, tv, dv, nv, rv, ov, hA1⟩, s1⟩ := hcut
  obtain ⟨ra, rc, rfl, _⟩ := hA1.rt.shape
  have t16 : wc.cell? ⟨g, 16, none⟩ = some (.int .i64 M.now) := hA1.blk.1.cell 16
  have t8 : wc.cell? ⟨g, 8, none⟩ = some (.int .i64 M.c.ba) := hA1.blk.1.cell 8
  have t17 : wc.cell? ⟨g, 17, none⟩ = some (.slice ra M.rt.length rc) := hA1.blk.1.cell 17
  have HA1 := hide hA1
  have HS1 := hide s1
  have hgc : g < wc.heap.size := hA1.blk.1.lt
  clear hA1 s1
  go_wp2_with fail
  go_region_law (refine step_append_lies _ (by rfl) _ _ _ (by rfl) 0 189 i1 _ 2 16 Tryz.underlying135 hi1 hy0 hy1 hy2 rfl (by omega) (.slice ra M.rt.length rc) M.rt.length (M.rt.flatMap Ret.cells) (by rfl) ((HA1.out.rt.1.alloc _).drew) ⟨wc.heap.size, 0, none⟩ 1 1 (Ret.cells ⟨M.now, M.c.ba⟩) (by rfl) (by rfl) (World.news_of_block (cs := (Ret.cells ⟨M.now, M.c.ba⟩).toArray) (t := 189) (fr := (0, 0)) (heap_alloc_new wc _)) (by simp [Value.oneCell', Ret.cells]) (by omega) (by unfold maxLen; omega) (by omega) (by omega) (wc.heap.size + 1) (by simp) ?_; intro g2 cap2 w2 hown2 hg2 hat2 hlt2; have hBk := Blk.grown (w := World.drew (World.alloc wc _)) (HA1.out.blk.1.alloc _) hg2 (fun e => by have := HA1.out.rt.2 g e.symm; rw [HA1.out.blk.2] at this; simp at this); have z0 := hBk.cell 17; have y0 := hBk.frozen 17; simp [agCells] at z0; have HU := hide (retried_step HA1.out hown2 hg2 hat2); clear hBk hown2 hg2 hat2)
  all_goals
    go_wp2_with fail
    first | go_end0 | refine bodyPost_ret (results_none rfl _ _ _) rfl ?_
    obtain ⟨L2, hA2, hS2⟩ := HU.out
    exact ⟨rfl, L2, hA2, HS1.out.trans hS2⟩

theorem admit_any (L : Labs) (who g : Nat) (M : Ag) (b : Bat) (w : World) (hA : AgentAt w L who g M) (hb : M.bs.length < 120) (hd : 0 ≤ b.dst ∧ b.dst < 4) (ht : b.ten.length ≤ 16) (hid : b.id.length ≤ 16) (hbo : b.body.length ≤ 63) (hlg : M.log.length ≤ 900000000000000) (hrt : M.rt.length ≤ 120) :
    Calls Tryz.prog 66 #[.pointer (some ⟨g, 0, none⟩), batVal b] w fun e w' => e = .returned (.tuple #[]) ∧ Turned w L who g (M.taken b) w' := by
  refine (admit_core (clip L w.heap.size) who g M b w (fun k hk => clip_none L hk) (hA.keep (Step.clipped (p := fun _ => False) L w) (fun _ h => h)) hb hd ht hid hbo hlg hrt).mono ?_
  rintro e w' ⟨rfl, L', h1, h2⟩
  exact ⟨rfl, L', h1, (Step.clipped L w).trans h2⟩
end Go.Proofs.YtojpjaifhjigfaaGreatDoor

/- What sending does, as plain data: events, breakers, turns. -/
namespace Go.Proofs.YtojpjaifhjigfaaGreatDoor
open Go.RowKit Go.Maps

/-- An event: its kind (0 taken, 1 acked, 2 failed, 3 dead); the batch that was taken; or a place and how often it failed more. -/
structure Ev where
  kind : Nat
  b : Bat
  pl : Nat
  f : Nat
def noBat : Bat := ⟨0, [], [], [], 0, 0⟩
def Ev.of (k p f : Nat) : Ev := ⟨k, noBat, p, f⟩
def Ev.cells (e : Ev) : List Value := [.int .i64 e.kind, .int .i64 e.b.dst, encStr e.b.ten, encStr e.b.id, encStr e.b.body, .int .i64 e.pl, .int .i64 e.f]
theorem Ev.cells_length (e : Ev) : e.cells.length = 7 := rfl

def Bat.ended (b : Bat) (k f : Nat) : Bat := { b with fl := b.fl + f, st := if k = 1 then 2 else if k = 3 then 3 else b.st }
/-- What an event makes of an agent. -/
def Ag.played (M : Ag) (e : Ev) : Ag := if e.kind = 0 then { M with bs := M.bs ++ [e.b.fresh] } else { M with bs := M.bs.modify e.pl (fun b => b.ended e.kind e.f), dead := if e.kind = 3 then M.dead ++ [e.pl] else M.dead }
def Ev.bytes (e : Ev) : List UInt8 := if e.kind = 0 then evBytes e.b else [UInt8.ofNat e.kind, UInt8.ofNat e.pl, UInt8.ofNat e.f]
/-- The record of some events. -/
def recB (by' : UInt8) (es : List Ev) : List UInt8 := if es = [] then [] else [by', UInt8.ofNat ((es.flatMap Ev.bytes).length / 256), UInt8.ofNat ((es.flatMap Ev.bytes).length % 256)] ++ es.flatMap Ev.bytes
def Ag.recorded (M : Ag) (es : List Ev) : Ag := { es.foldl Ag.played M with log := M.log ++ recB 43 es }

/-- The pending ones of a lane, by their places. -/
def isP (bs : List Bat) (d : Int) (t : List UInt8) (i : Nat) : Bool := match bs[i]? with | some b => decide (b.dst = d) && decide (b.ten = t) && decide (b.st = 1) | none => false
theorem pend_range (bs : List Bat) (d : Int) (t : List UInt8) : pend bs d t = (List.range bs.length).filter (isP bs d t) := by
  refine snoc_ind (P := fun bs => pend bs d t = (List.range bs.length).filter (isP bs d t)) rfl (fun l b ih => ?_) bs
  rw [pend_snoc, ih, List.length_append, List.length_singleton, List.range_succ, List.filter_append]
  congr 1
  · refine List.filter_congr fun i hi => ?_
    have : i < l.length := by simpa using hi
    unfold isP
    rw [List.getElem?_append_left this]
  · have e : isP (l ++ [b]) d t l.length = (decide (b.dst = d) && decide (b.ten = t) && decide (b.st = 1)) := by simp [isP]
    rw [List.filter_cons, e, List.filter_nil]
theorem mem_pend {bs : List Bat} {d : Int} {t : List UInt8} {i : Nat} : i ∈ pend bs d t ↔ ∃ b, bs[i]? = some b ∧ b.dst = d ∧ b.ten = t ∧ b.st = 1 := by
  rw [pend_range, List.mem_filter, List.mem_range]
  unfold isP
  constructor
  · rintro ⟨h1, h2⟩
    rw [List.getElem?_eq_getElem h1] at h2 ⊢
    simp at h2
    exact ⟨_, rfl, h2.1.1, h2.1.2, h2.2⟩
  · rintro ⟨b, hb, h1, h2, h3⟩
    exact ⟨(List.getElem?_eq_some_iff.1 hb).1, by rw [hb]; simp [h1, h2, h3]⟩
theorem pend_ended (bs : List Bat) (p k f : Nat) (hk : k = 1 ∨ k = 3) (d : Int) (t : List UInt8) : pend (bs.modify p (fun b => b.ended k f)) d t = (pend bs d t).filter (fun i => !(i == p)) := by
  rw [pend_range, pend_range, List.filter_filter, List.length_modify]
  refine List.filter_congr fun i _ => ?_
  unfold isP
  rw [List.getElem?_modify]
  by_cases e : p = i
  · subst e
    cases h : bs[p]? with
    | none => simp
    | some b => rcases hk with rfl | rfl <;> simp [Bat.ended]
  · have : (i == p) = false := by simp; exact fun h => e h.symm
    cases h : bs[i]? with
    | none => simp
    | some b => simp [e, this]
theorem pend_failed (bs : List Bat) (p f : Nat) (d : Int) (t : List UInt8) : pend (bs.modify p (fun b => b.ended 2 f)) d t = pend bs d t := by
  rw [pend_range, pend_range, List.length_modify]
  refine List.filter_congr fun i _ => ?_
  unfold isP
  rw [List.getElem?_modify]
  by_cases e : p = i
  · subst e
    cases h : bs[p]? with
    | none => simp
    | some b => simp [Bat.ended]
  · cases h : bs[i]? with
    | none => simp
    | some b => simp [e]

/-- What the end of a send makes of an agent, and the event. -/
def Ag.settled (M : Ag) (d : Nat) (good : Bool) (draw : Int) : Ag × Ev :=
  match M.os[d]? with
  | none => (M, Ev.of 0 0 0)
  | some o =>
    let p := o.way.toNat
    let M1 : Ag := { M with os := M.os.set d ({ o with way := -1 }.heard M.c M.now good) }
    if good then (M1, Ev.of 1 p 0) else
    match M.bs[p]?, M.rt[p]? with
    | some b, some r => if M.c.at' ≤ b.fl + 1 then (M1, Ev.of 3 p 1) else ({ M1 with rt := M.rt.set p ⟨M.now + nextPause M.c r.pa draw, nextPause M.c r.pa draw⟩ }, Ev.of 2 p 1)
    | _, _ => (M1, Ev.of 0 0 0)

/-- Of the first k destinations each send that has been under way for too long has ended. -/
def Ag.gaveUp (M : Ag) (draw : Int) : Nat → Ag × List Ev
  | 0 => (M, [])
  | k + 1 =>
    let x := M.gaveUp draw k
    match M.os[k]? with
    | none => x
    | some o => if o.way ≠ -1 ∧ M.c.ti ≤ M.now - o.began then ((x.1.settled k false draw).1, x.2 ++ [(x.1.settled k false draw).2]) else x

/-- A quantum. -/
def qOf (D : DataW Unit) (x : List UInt8) : Int := match D.atKey (.string x) (.lit (.int .i64 0)) with | .lit (.int _ c) => c | _ => 0
/-- The size of what may go of a lane: 0, if nothing may. -/
def Ag.size (M : Ag) (d : Nat) (x : List UInt8) : Nat := match pend M.bs d x with | [] => 0 | p :: _ => if M.now < (M.rt[p]?.map (·.fr)).getD 0 then 0 else (M.bs[p]?.map (·.body.length)).getD 0 + 1
def Ag.sizes (M : Ag) (d : Nat) : List Nat := M.ns.map (M.size d)
def Ag.quanta (M : Ag) : List Int := M.ns.map (qOf M.D)
/-- Whose turn it is then, and what is paid. -/
def Out.picked (o : Out) (sizes : List Nat) (quanta : List Int) : Out :=
  let s := turnsR sizes quanta o.cr.length (o.turn, o.cr)
  { o with turn := s.1, cr := s.2.set s.1 (s.2.getD s.1 0 - sizes.getD s.1 0) }
/-- A send: the destination, the try, the batch. -/
structure Sd where
  d : Int
  try' : Int
  id : List UInt8
  body : List UInt8
def Sd.cells (s : Sd) : List Value := [.int .i64 s.d, .int .i64 s.try', encStr s.id, encStr s.body]
/-- What one destination sends. -/
def Ag.sentTo (M : Ag) (d : Nat) : Ag × List Sd :=
  match M.os[d]? with
  | none => (M, [])
  | some o => if o.way ≠ -1 ∨ (o.trip = true ∧ M.now < o.unt) ∨ (M.sizes d).all (· == 0) then (M, []) else
    let o1 := o.picked (M.sizes d) M.quanta
    let p := (pend M.bs d (M.ns.getD o1.turn [])).headD 0
    ({ M with os := M.os.set d { o1 with sends := o.sends + 1, way := p, began := M.now } }, [⟨d, o.sends + 1, (M.bs[p]?.map (·.id)).getD [], (M.bs[p]?.map (·.body)).getD []⟩])
def Ag.sentOut (M : Ag) : Nat → Ag × List Sd
  | 0 => (M, [])
  | k + 1 => let x := M.sentOut k; ((x.1.sentTo k).1, x.2 ++ (x.1.sentTo k).2)
end Go.Proofs.YtojpjaifhjigfaaGreatDoor

/- The end of a batch: fail, end, ack, die. -/
namespace Go.Proofs.YtojpjaifhjigfaaGreatDoor
open Go.RowKit Go.Maps Go.Sort Go.Shelf

def Ev.val (e : Ev) : Value := .agg #[.int .i64 e.kind, .int .i64 e.b.dst, encStr e.b.ten, encStr e.b.id, encStr e.b.body, .int .i64 e.pl, .int .i64 e.f]

/-- A look-up in the queues. -/
theorem look_queue {w : World} {b n : Nat} {D : DataW Value} (h : w.ownsMap Tryz.prog 202 Rq b n D) {d : Int} {t : List UInt8} (hl : LaneOk d t) :
    ∃ a len cap, hdr D d t = .slice a len cap ∧ ∀ w' n', w'.ownsMap Tryz.prog 202 Rq b n' D → (Instr.lookup 132 (.map (some b)) (laneVal d t) false).run Tryz.prog w' = .ok (.slice a len cap) w' := by
  have key : ∀ w' n', w'.ownsMap Tryz.prog 202 Rq b n' D → (Instr.lookup 132 (.map (some b)) (laneVal d t) false).run Tryz.prog w' = .ok (hdr D d t) w' ∧ ∃ a len cap, hdr D d t = .slice a len cap := fun w' n' h' => by
    obtain ⟨v, ps, hrun, hv⟩ := h'.lookup lawLane Tryz.underlying132 (zeroInts w') (zd := .held (.slice none 0 0)) (zp := []) rfl (keyOf_lane hl)
    unfold Rq at hv
    split at hv
    · rename_i a len cap
      simp only [Option.some.injEq, Prod.mk.injEq] at hv
      refine ⟨?_, a, len, cap, by simp [hdr, ← hv.1]⟩
      rw [hrun]
      simp [hdr, ← hv.1]
    · cases hv
  obtain ⟨_, a, len, cap, e⟩ := key w n h
  exact ⟨a, len, cap, e, fun w' n' h' => by rw [(key w' n' h').1, e]⟩

set_option maxHeartbeats 400000 in
theorem end1_any (x p : Int) (ge : Nat) (w : World) (h : w.cell? ⟨ge, 5, none⟩ = some (.int .i64 p)) : Calls Tryz.prog 174 #[.int .i64 x, .pointer (some ⟨ge, 0, none⟩)] w fun e w' => e = .returned (.bool (x == p)) ∧ w' = w := by
  go_enter Tryz.func174, Tryz.ntmps174
  go_wp2_with fail
  go_ret
  exact ⟨rfl, rfl⟩

def encN (n : Nat) : Value := .int .i64 (n : Int)
theorem nat_beq (x p : Nat) : ((x : Int) == (p : Int)) = (x == p) := by
  by_cases h : x = p
  · subst h; simp
  · have h' : ¬ ((x : Int) = (p : Int)) := by omega
    rw [beq_eq_false_iff_ne.2 h', beq_eq_false_iff_ne.2 h]

set_option maxHeartbeats 400000 in
theorem deleteFunc_any (L : Labs) (l : Lab) (g cap p ge : Nat) (ps : List Nat) (w : World) (h : RowAt w L l 3 1 (.slice (some ⟨g, 0, none⟩) ps.length cap) ps.length (ints ps)) (he : w.cell? ⟨ge, 5, none⟩ = some (.int .i64 (p : Int))) (hne : ge ≠ g) :
    Calls Tryz.prog 173 #[.slice (some ⟨g, 0, none⟩) ps.length cap, .func (.func 174) #[] #[.pointer (some ⟨ge, 0, none⟩)]] w fun e w' => e = .returned (.slice (some ⟨g, 0, none⟩) (ps.filter fun i => !(i == p)).length cap) ∧
      RowAt w' L l 3 1 (.slice (some ⟨g, 0, none⟩) (ps.filter fun i => !(i == p)).length cap) (ps.filter fun i => !(i == p)).length (ints (ps.filter fun i => !(i == p))) ∧ Step (fun x => x = l) L w L w' := by
  have h1 : w.ownsRow 0 3 1 (.slice (some ⟨g, 0, none⟩) ps.length cap) ps.length (ps.map encN) := h.1
  obtain ⟨g', cap', e, hb, hlt, hn, hm, hl, hH⟩ := Lib.holds_of_ownsRow h1 (by simp)
  simp only [Value.slice.injEq, Option.some.injEq, Addr.mk.injEq, and_true, true_and] at e
  obtain ⟨rfl, rfl⟩ := e
  have hgel := World.block_lt_of_cell? w _ he
  have hp : PredAt Tryz.prog 174 #[.pointer (some ⟨ge, 0, none⟩)] encN (fun i => i == p) w := fun W x hB => by
    refine (end1_any (x : Int) p ge W ((hB.cell (p := ⟨ge, 5, none⟩) hgel).trans he)).mono ?_
    rintro e w' ⟨rfl, rfl⟩
    exact ⟨by rw [nat_beq], 0, rfl⟩
  have hpo : PredOver Tryz.prog 174 #[.pointer (some ⟨ge, 0, none⟩)] encN (fun i => i == p) g 0 ps.toArray.size w := fun n os dk x hs => by
    have hc : (sortWorld encN w g 0 n dk os).cell? ⟨ge, 5, none⟩ = some (.int .i64 (p : Int)) := by
      rw [← he]
      have e1 : (sortWorld encN w g 0 n dk os).heap[ge]? = w.heap[ge]? := by
        show ((putRow encN (Sort.ahead w n) g 0 dk).heap ++ os)[ge]? = _
        rw [Array.getElem?_append_left (by simpa [putRow, mapBlock, Sort.ahead] using hgel)]
        simp [putRow, mapBlock, Sort.ahead, Array.getElem?_modify]
        exact fun e => absurd e.symm hne
      simp only [World.cell?, e1]
    refine (end1_any (x : Int) p ge _ hc).mono ?_
    rintro e w' ⟨rfl, rfl⟩
    exact ⟨by rw [nat_beq], 0, rfl⟩
  have hsz : ps.toArray.size ≤ 9223372036854775807 := by
    have : ps.length ≤ maxLen := Nat.le_trans hn hm
    unfold maxLen at this
    simp
    omega
  have := AnyE.slices_DeleteFunc Tryz.layDelete encN (fun _ => rfl) (fun i => i == p) 174 #[.pointer (some ⟨ge, 0, none⟩)] (enters_of Tryz.func174 (by kernel_rfl) rfl) 0 (fun w => zeroInt w) g 0 cap ps.toArray w hp hpo hH hsz (by simpa using hn)
  refine (show Calls Tryz.prog 173 _ w _ from this).mono ?_
  rintro e w' ⟨rfl, q, rfl⟩
  have hfl : (ps.filter fun i => !(i == p)).length ≤ ps.length := List.length_filter_le _ _
  have ho := Lib.ownsRow_putRow (q := q) (ys := (ps.filter fun i => !(i == p)) ++ List.replicate (ps.length - (ps.filter fun i => !(i == p)).length) 0) (k := (ps.filter fun i => !(i == p)).length) h1 (by simp; omega) hfl
  rw [List.take_left] at ho
  refine ⟨rfl, ⟨ho, fun k hk => ?_⟩, ⟨rfl, rfl, rfl, by simp [putRow, mapBlock, Sort.ahead], fun _ _ => rfl, fun k hk hk2 => ?_⟩⟩
  · obtain rfl : g = k := by simpa [Value.ownBlock] using hk
    exact h.2 g (by simp [Value.ownBlock])
  · have : g ≠ k := fun e => hk2 (by rw [← e]; exact h.2 g (by simp [Value.ownBlock]))
    simp [putRow, mapBlock, Sort.ahead, Array.getElem?_modify, this]

/-- What belongs to the row of batches. -/
def tkP (who : Nat) : Lab → Prop := fun l => l = some (who, .tk)

/-- A store into a batch. -/
theorem Bat.put {w : World} {L : Labs} {who gt k n p j : Nat} {bs : List Bat} {b b' : Bat} {v : Value} (h : RowAt w L (some (who, .tk)) 155 6 (.slice (some ⟨gt, 0, none⟩) n k) n (bs.flatMap Bat.cells)) (hb : bs[p]? = some b) (hj : j < 6) (hc : b'.cells = b.cells.set j v) :
    RowAt (w.setCell ⟨gt, p * 6 + j, none⟩ v) L (some (who, .tk)) 155 6 (.slice (some ⟨gt, 0, none⟩) n k) n ((bs.set p b').flatMap Bat.cells) ∧ Step (tkP who) L w L (w.setCell ⟨gt, p * 6 + j, none⟩ v) := by
  have := h.set (p * 6 + j) v
  rw [flat_set Bat.cells 6 Bat.cells_length bs p j b b' v hj hb hc] at this
  exact ⟨this, Step.setCell _ _ _ _ (h.2 gt (by simp [Value.ownBlock]))⟩

set_option maxRecDepth 100000 in
set_option maxHeartbeats 1000000 in
theorem fail_any (L : Labs) (who g gt gk n : Nat) (e : Ev) (b : Bat) (bs : List Bat) (w : World) (hc : w.cell? ⟨g, 0, none⟩ = some (.slice (some ⟨gt, 0, none⟩) n gk)) (h : RowAt w L (some (who, .tk)) 155 6 (.slice (some ⟨gt, 0, none⟩) n gk) n (bs.flatMap Bat.cells))
    (hb : bs[e.pl]? = some b) (hp : e.pl < n) (h0 : 0 ≤ b.fl) (h1 : b.fl ≤ 1000) (hf : e.f ≤ 1000) :
    Calls Tryz.prog 138 #[.pointer (some ⟨g, 0, none⟩), e.val] w fun r w' => r = .returned (.tuple #[]) ∧ RowAt w' L (some (who, .tk)) 155 6 (.slice (some ⟨gt, 0, none⟩) n gk) n ((bs.set e.pl { b with fl := b.fl + e.f }).flatMap Bat.cells) ∧ Step (tkP who) L w L w' := by
  have HU : Hid (∀ o, RowAt (((w.setCell ⟨gt, e.pl * 6 + 5, none⟩ (.int .i64 (b.fl + e.f))).alloc o).drew) L (some (who, .tk)) 155 6 (.slice (some ⟨gt, 0, none⟩) n gk) n ((bs.set e.pl { b with fl := b.fl + e.f }).flatMap Bat.cells) ∧ Step (tkP who) L w L (((w.setCell ⟨gt, e.pl * 6 + 5, none⟩ (.int .i64 (b.fl + e.f))).alloc o).drew)) := fun o => by
    obtain ⟨a, s⟩ := Bat.put (b' := { b with fl := b.fl + e.f }) (v := .int .i64 (b.fl + e.f)) h hb (j := 5) (by omega) rfl
    have s2 : Step (tkP who) L (w.setCell ⟨gt, e.pl * 6 + 5, none⟩ (.int .i64 (b.fl + e.f))) L (((w.setCell ⟨gt, e.pl * 6 + 5, none⟩ (.int .i64 (b.fl + e.f))).alloc o).drew) := (Step.alloc L _ o).trans (Step.drew L _)
    exact ⟨a.keep ((Step.alloc (p := fun _ => False) L _ o).trans (Step.drew L _)) (fun h => h), s.trans s2⟩
  obtain ⟨g', e', hlt, _, hcell, hfz⟩ := h.head (by omega)
  obtain rfl : gt = g' := by simpa using e'
  have c5 : w.cell? ⟨gt, e.pl * 6 + 5, none⟩ = some (.int .i64 b.fl) := hcell _ _ (flat_cell Bat.cells 6 Bat.cells_length hb (by omega) rfl)
  have f5 := hfz (e.pl * 6 + 5)
  have hpI : (e.pl : Int) < (n : Int) := by omega
  have hgl := World.block_lt_of_cell? w _ hc
  clear h hcell hfz e' hb
  unfold Ev.val
  obtain ⟨ek, eb, p, f⟩ := e
  simp only at *
  go_enter Tryz.func138, Tryz.ntmps138
  go_wp2_with fail
  go_region
  all_goals
    go_wp2_with fail
    first | go_end0 | refine bodyPost_ret (results_none rfl _ _ _) rfl ?_
    exact ⟨rfl, HU.out _⟩
end Go.Proofs.YtojpjaifhjigfaaGreatDoor
