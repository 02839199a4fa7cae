/- Open of an empty log: a new agent, labelled; or ErrConfig. -/
import Derived.Test.YtojpjaifhjigfaaGreatDoorNewAgent
namespace Go.Proofs.YtojpjaifhjigfaaGreatDoor
open Go.RowKit Go.Maps

theorem infoRetry : (Tryz.prog.info? 189).map (fun i => (i.zero, i.size, i.bytes)) = some (some (.agg #[.int .i64 0, .int .i64 0]), 2, 16) := by kernel_rfl

/-- Nothing goes over where one of the two has no element, whatever the elements. -/
theorem run_copy_zero {P : Program} (w : World) (dT sT ty elem : TypeId) (d a : Addr) (dLen dCap sLen sCap : Nat) (hu : P.underlying dT = some (.slice elem)) {i : TypeInfo} (hs : P.info? elem = some i) (hn : Nat.min sLen dLen = 0) :
    (Builtin.copy_ #[dT, sT] ty #[.slice (some d) dLen dCap, .slice (some a) sLen sCap]).run P w = .ok (.int .i64 0) w := by
  have hl : ∀ (x : Addr), (loadCells x 0).run P w = .ok #[] w := fun x => by simpa using run_loadCells_list (P := P) w x [] (by simp)
  simp [Builtin.copy_, run_underlying hu, Builtin.lenOf, Builtin.firstCells, sizeOf, typeInfo, hs, hn, storeCells, hl, goInt]

set_option maxRecDepth 100000 in
set_option maxHeartbeats 1000000 in
theorem repeat_zero (gx : Nat) (w : World) : Calls Tryz.prog 107 #[.slice (some ⟨gx, 0, none⟩) 1 1, .int .i64 0] w fun e w' => e = .returned (.slice (some ⟨w.heap.size, 0, none⟩) 0 0) ∧ w' = w.alloc (.cells #[] 189) := by
  obtain ⟨i1, hi1, hy0, hy1, hy2⟩ := info_parts infoRetry
  have hmk : ∀ W : World, (Instr.makeSlice 135 (.int .i64 0) (.int .i64 0)).run Tryz.prog W = .ok (.slice (some ⟨W.heap.size, 0, none⟩) 0 0) (W.alloc (.cells #[] 189)) := fun W => by
    have := run_make (P := Tryz.prog) W 135 189 i1 _ Tryz.underlying135 hi1 hy0 .i64 .i64 0 0 (by omega) (by omega) (by rw [hy2]; omega) (by omega)
    rw [this]
    congr 3
    simp [madeCells]
  have H := fun w => hide (bitsMul_any 1 0 (by omega) (by omega) w)
  have hcp := fun W d => run_copy_zero (P := Tryz.prog) W 135 135 3 189 d ⟨gx, 0, none⟩ 0 0 1 1 Tryz.underlying135 hi1 (by decide)
  go_enter Tryz.func107, Tryz.ntmps107
  go_wp2_with fail
  refine (H _).out.mono ?_
  rintro e w' ⟨rfl, rfl⟩
  go_wp2_with fail
  refine wp_loop_rounds 1 ?_
  rw [rounds_succ]
  go_wp2_with fail
  go_ret
  exact ⟨rfl, rfl⟩

set_option maxRecDepth 100000 in
set_option maxHeartbeats 1000000 in
theorem replay_empty (g : Nat) (ba : Int) (w : World) (cur : Array Value) (hK : Blk w g cur 138) (h0 : cur[0]? = some (.slice none 0 0)) (h3 : cur[3]? = some (.string ⟨#[]⟩)) (h8 : cur[8]? = some (.int .i64 ba)) (h17 : cur[17]? = some (.slice none 0 0)) :
    Calls Tryz.prog 64 #[.pointer (some ⟨g, 0, none⟩), .string ⟨#[]⟩] w fun e w' => ∃ gr, e = .returned (.bool true) ∧ w.heap.size ≤ gr ∧ Blk w' g (cur.setIfInBounds 17 (.slice (some ⟨gr, 0, none⟩) 0 0)) 138 ∧ Blk w' gr #[] 189 ∧ (∀ q, q < w.heap.size → q ≠ g → w'.heap[q]? = w.heap[q]?) ∧ Below g w w' := by
  have c0 : w.cell? ⟨g, 0, none⟩ = some (.slice none 0 0) := (hK.cell 0).trans h0
  have c3 : w.cell? ⟨g, 3, none⟩ = some (.string ⟨#[]⟩) := (hK.cell 3).trans h3
  have c8 : w.cell? ⟨g, 8, none⟩ = some (.int .i64 ba) := (hK.cell 8).trans h8
  have c17 : w.cell? ⟨g, 17, none⟩ = some (.slice none 0 0) := (hK.cell 17).trans h17
  have f3 := hK.frozen 3
  have f17 := hK.frozen 17
  have hgl := hK.lt
  have HK := hide hK
  have H := fun w => hide (strClone_any ⟨#[]⟩ w (by simp [ByteArray.size]))
  clear hK h0 h3 h8 h17
  go_enter Tryz.func64, Tryz.ntmps64
  go_wp2_with fail
  refine wp_loop_rounds 1 ?_
  rw [rounds_succ]
  go_wp2_with fail
  refine (H _).out.mono ?_
  rintro e w1 ⟨rfl, hb1⟩
  have hb1w : Below w.heap.size w w1 := ((Below.refl _ _).alloc (Nat.le_refl _) _).trans (hb1.mono (by simp))
  have hK1 : Blk w1 g cur 138 := HK.out.below hb1w hgl
  have d3 : w1.cell? ⟨g, 3, none⟩ = some (.string ⟨#[]⟩) := (hb1w.cell (p := ⟨g, 3, none⟩) hgl).trans c3
  have e3 := hK1.frozen 3
  have hsame : cur.setIfInBounds 3 (.string ⟨#[]⟩) = cur := by
    have h3 := (HK.out.cell 3).symm.trans c3
    apply Array.ext_getElem?
    intro i
    rw [Array.getElem?_setIfInBounds]
    split
    · rename_i e
      subst e
      split
      · exact h3.symm
      · rename_i hl
        rw [Array.getElem?_eq_none (by omega)] at h3
        cases h3
    · rfl
  have Hb1 := hide hb1w
  have HK1 := hide hK1
  have Hs := hide hsame
  have Hc0 := hide ((HK.out.cell 0).symm.trans c0)
  have Hc8 := hide ((HK.out.cell 8).symm.trans c8)
  have Hc17 := hide ((HK.out.cell 17).symm.trans c17)
  clear hb1 hb1w hK1 hsame c0 c3 c8 c17 f3 f17
  go_wp2_with fail
  generalize hV : World.setCell w1 _ _ = V
  have hKV : Blk V g cur 138 := by
    rw [← hV, ← Hs.out]
    exact HK1.out.set 3 _
  have hzV : V.heap.size = w1.heap.size := by rw [← hV]; simp [World.setCell]
  have hoV : ∀ q, q < w.heap.size → q ≠ g → V.heap[q]? = w.heap[q]? := fun q hq hne => by
    rw [← hV, Below.heap_setCell _ _ _ _ hne]
    exact Hb1.out.block q hq
  have hBV : Below g w V := by rw [← hV]; exact (Hb1.out.mono (Nat.le_of_lt hgl)).setCell (Nat.le_refl _) _
  have k0 : V.cell? ⟨g, 0, none⟩ = some (.slice none 0 0) := (hKV.cell 0).trans Hc0.out
  have k8 : V.cell? ⟨g, 8, none⟩ = some (.int .i64 ba) := (hKV.cell 8).trans Hc8.out
  have k17 : V.cell? ⟨g, 17, none⟩ = some (.slice none 0 0) := (hKV.cell 17).trans Hc17.out
  have f17 := hKV.frozen 17
  have hgV := hKV.lt
  have n0 := World.new_ne V ⟨g, 0, none⟩ k0
  have n8 := World.new_ne V ⟨g, 8, none⟩ k8
  have n17 := World.new_ne V ⟨g, 17, none⟩ k17
  have m0 := fun v => ((hKV.set 17 v).cell 0).trans ((show (cur.setIfInBounds 17 v)[0]? = cur[0]? by simp).trans Hc0.out)
  have m8 := fun v => ((hKV.set 17 v).cell 8).trans ((show (cur.setIfInBounds 17 v)[8]? = cur[8]? by simp).trans Hc8.out)
  have HKV := hide hKV
  have HzV := hide hzV
  have HoV := hide hoV
  have HBV := hide hBV
  have Hz1 : Hid (w.heap.size ≤ w1.heap.size) := Hb1.out.size
  clear hV hKV hzV hoV hBV HK1 Hs d3 e3
  go_region_held3 (fun w' => w'.cell? ⟨g, 0, none⟩ = some (.slice none 0 0) ∧ w'.cell? ⟨g, 8, none⟩ = some (.int .i64 ba)) (go_keep)
    (first
      | (go_at_call 107; refine (repeat_zero _ _).mono ?_; rintro e w2 ⟨rfl, rfl⟩))
  all_goals
    go_wp2_with fail
    go_ret
    have hz := HzV.out
    have hz1 := Hz1.out
    refine ⟨V.heap.size + 1, rfl, by omega, ((HKV.out.set 17 _).alloc _).alloc _, Blk.made (by simp [World.setCell]) _ _, fun q hq hne => ?_, ?_⟩
    · show (World.alloc (World.alloc (World.setCell V _ _) _) _).heap[q]? = _
      rw [Below.heap_alloc _ _ _ (by simp [World.setCell]; omega), Below.heap_alloc _ _ _ (by simp [World.setCell]; omega), Below.heap_setCell _ _ _ _ hne]
      exact HoV.out q hq hne
    · exact (((HBV.out.setCell (Nat.le_refl _) _).alloc (by simp [World.setCell]; omega) _).alloc (by simp [World.setCell]; omega) _).drew

/-- The labels of what a new agent has brought. -/
def newLabs (L : Labs) (n : Nat) (w : World) (who bq : Nat) (fs : List (Value × Value)) : Labs := fun k =>
  if k < n then L k else match w.heap[k]? with
  | some (.cells _ t _) => if t = 138 then some (who, .ag) else if t = 149 then some (who, .ol) else if t = 9 then some (who, .nm) else if t = 23 then some (who, .th 0) else if t = 189 then some (who, .rt) else
      if t = 3 then some (who, .cr ((fs.findIdx? fun f => f.2.ownBlock == some k).getD 0)) else none
  | some (.map _ _) => if k = bq then some (who, .qm) else some (who, .cm)
  | _ => none
theorem newLabs_old (L : Labs) (n : Nat) (w : World) (who bq : Nat) (fs : List (Value × Value)) : ∀ k, k < n → newLabs L n w who bq fs k = L k := fun k hk => by simp [newLabs, hk]
theorem newLabs_none {L : Labs} {n : Nat} {w : World} {who bq : Nat} {fs : List (Value × Value)} {k : Nat} (hn : n ≤ w.heap.size) (hk : w.heap.size ≤ k) : newLabs L n w who bq fs k = none := by
  have h : w.heap[k]? = none := Array.getElem?_eq_none hk
  simp [newLabs, h, Nat.not_lt.2 (Nat.le_trans hn hk)]
theorem newLabs_cells {L : Labs} {n : Nat} {w : World} {who bq : Nat} {fs : List (Value × Value)} {k : Nat} {cs : Array Value} {t : TypeId} (hk : n ≤ k) (h : Blk w k cs t) : newLabs L n w who bq fs k =
    if t = 138 then some (who, .ag) else if t = 149 then some (who, .ol) else if t = 9 then some (who, .nm) else if t = 23 then some (who, .th 0) else if t = 189 then some (who, .rt) else
      if t = 3 then some (who, .cr ((fs.findIdx? fun f => f.2.ownBlock == some k).getD 0)) else none := by
  unfold Blk at h
  simp [newLabs, h, Nat.not_lt.2 hk]
theorem newLabs_map {L : Labs} {n : Nat} {w : World} {who bq : Nat} {fs : List (Value × Value)} {k : Nat} {es : Array MapEntry} {cl : Nat} (hk : n ≤ k) (h : w.heap[k]? = some (.map es cl)) : newLabs L n w who bq fs k = if k = bq then some (who, .qm) else some (who, .cm) := by
  simp [newLabs, h, Nat.not_lt.2 hk]

theorem queuesAt_empty {w : World} {L : Labs} {who b : Nat} (h : w.heap[b]? = some (.map #[] 0)) (hl : L b = some (who, .qm)) : QueuesAt w L who b [] := by
  refine ⟨.map [], ⟨?_, hl⟩, Nat.le_refl _, fun d t _ hh => by simp [Maps.has] at hh, fun d t _ hp => absurd (pend_nil d t) hp, fun d t _ => RowAt.nil _ _ _ _ _⟩
  obtain ⟨es, clock, hb, F, hs, hD⟩ := World.ownsMap_made w Tryz.prog 202 Rq
  rw [obj_new rfl] at hb
  cases hb
  exact ⟨#[], 0, h, F, hs, hD⟩

theorem apart_find {fs : List (Value × Value)} (h : Apart fs) {i : Nat} {f : Value × Value} {g : Nat} (hf : fs[i]? = some f) (hg : f.2.ownBlock = some g) : fs.findIdx? (fun f => f.2.ownBlock == some g) = some i := by
  rw [List.findIdx?_eq_some_iff_getElem]
  obtain ⟨h1, h2⟩ := List.getElem?_eq_some_iff.1 hf
  refine ⟨h1, by simp [h2, hg], fun j hj => ?_⟩
  have := h j i _ f hj (List.getElem?_eq_getElem (by omega)) hf
  rw [hg] at this
  simpa using this

theorem zip_flat (o : Out) : ∀ fs : List (Value × Value), ((List.replicate fs.length o).zip fs).flatMap (fun p => p.1.cells p.2.1 p.2.2) = fs.flatMap fun f => o.cells f.1 f.2
  | [] => rfl
  | f :: fs => by rw [List.length_cons, List.replicate_succ, List.zip_cons_cons, List.flatMap_cons, List.flatMap_cons, zip_flat o fs]

/-- A new agent, behind replay of an empty log, with its labels. -/
theorem agentAt_new {w w1 w2 : World} {c : Cfg} {D : DataW Unit} {g bq bm cn go gr : Nat} {nv : Value} {ns : List (List UInt8)} {fs : List (Value × Value)} (L : Labs) (who : Nat) (h : NewAg w w1 c D g bq bm cn go nv ns fs) (hgr : w1.heap.size ≤ gr) (hsz : Maps.size D = ns.length)
    (hK : Blk w2 g ((agCells bq bm (.slice none 0 0) (.slice none 0 0) nv (.slice none 0 0) (.slice (some ⟨go, 0, none⟩) c.d.toNat c.d.toNat) (Ag.new c D ns)).setIfInBounds 17 (.slice (some ⟨gr, 0, none⟩) 0 0)) 138) (hr : Blk w2 gr #[] 189)
    (ho : ∀ q, q < w1.heap.size → q ≠ g → w2.heap[q]? = w1.heap[q]?) : AgentAt w2 (newLabs L w.heap.size w2 who bq fs) who g (Ag.new c D ns) := by
  have hmap : ∀ (b : Nat) (es : Array MapEntry) (cl : Nat), w1.heap[b]? = some (.map es cl) → w2.heap[b]? = some (.map es cl) := fun b es cl hb => by
    rw [ho b (Array.getElem?_eq_some_iff.1 hb).1 (fun e => by subst e; have := h.blk; unfold Blk at this; rw [hb] at this; cases this)]
    exact hb
  have hblk : ∀ b cs t, Blk w1 b cs t → t ≠ 138 → Blk w2 b cs t := fun b cs t hb ht => by
    unfold Blk
    rw [ho b hb.lt (fun e => by subst e; have := h.blk; unfold Blk at this hb; rw [hb] at this; cases this; exact ht rfl)]
    exact hb
  have hw1 : w.heap.size ≤ w1.heap.size := h.bw.size
  refine ⟨bq, bm, cn, .slice none 0 0, .slice none 0 0, nv, .slice (some ⟨gr, 0, none⟩) 0 0, .slice (some ⟨go, 0, none⟩) c.d.toNat c.d.toNat, ?_⟩
  refine { blk := ⟨hK, by rw [newLabs_cells h.bg hK]; rfl⟩, tk := RowAt.nil _ _ _ _ _, qs := queuesAt_empty (hmap _ _ _ h.qm) (by rw [newLabs_map h.bbq (hmap _ _ _ h.qm)]; simp), dd := RowAt.nil _ _ _ _ _, nm := ?_, rt := ?_, ol := ?_, cm := ?_ }
  · refine ⟨⟨h.nm.1, ?_⟩, fun q hq => ?_⟩
    · rcases h.nm.2 with q | ⟨q, cap, cur, q1, q2, q3, q4⟩
      · exact Or.inl q
      · exact Or.inr ⟨q, cap, cur, q1, Nat.zero_le _, hblk _ _ _ q3 (by decide), q4⟩
    · rcases h.nm.2 with ⟨q1, _⟩ | ⟨q', cap, cur, q1, q2, q3, q4⟩
      · rw [q1] at hq; cases hq
      · rw [q1] at hq
        obtain rfl : q' = q := by simpa [Value.ownBlock] using hq
        rw [newLabs_cells q2 (hblk _ _ _ q3 (by decide))]
        rfl
  · refine ⟨⟨rfl, Or.inr ⟨gr, 0, #[], rfl, Nat.zero_le _, hr, Nat.le_refl _, Nat.zero_le _, rfl, rfl⟩⟩, fun q hq => ?_⟩
    obtain rfl : gr = q := by simpa [Value.ownBlock] using hq
    rw [newLabs_cells (by omega) hr]
    rfl
  · have hfl := h.fl
    refine ⟨fs, by simp [Ag.new, hfl], ?_, fun i o f hio hif => ?_⟩
    · have e : (Ag.new c D ns).os.length = c.d.toNat := by simp [Ag.new]
      have e2 : (((Ag.new c D ns).os.zip fs).flatMap fun p => p.1.cells p.2.1 p.2.2) = fs.flatMap fun f => (Out.zero (Maps.size D)).cells f.1 f.2 := by
        rw [← zip_flat, hfl, hsz]
        rfl
      rw [e, e2]
      refine ⟨⟨h.ol.1, ?_⟩, fun q hq => ?_⟩
      · rcases h.ol.2 with ⟨q, _⟩ | ⟨q, cap, cur, q1, q2, q3, q4⟩
        · cases q
        · exact Or.inr ⟨q, cap, cur, q1, Nat.zero_le _, hblk _ _ _ q3 (by decide), q4⟩
      · rcases h.ol.2 with ⟨q, _⟩ | ⟨q', cap, cur, q1, q2, q3, q4⟩
        · cases q
        · rw [q1] at hq
          obtain rfl : q' = q := by simpa [Value.ownBlock] using hq
          rw [newLabs_cells q2 (hblk _ _ _ q3 (by decide))]
          rfl
    · have hoz : o = Out.zero (Maps.size D) := by
        have := List.mem_of_getElem? hio
        simp only [Ag.new, List.mem_replicate] at this
        rw [this.2, hsz]
        rfl
      subst hoz
      obtain ⟨g1, g2, hf, b1, b2, k1, k2⟩ := h.md i f hif
      have hgo := h.bo
      refine ⟨g1, by rw [hf], ⟨hblk _ _ _ k1 (by decide), by rw [newLabs_cells (by omega) (hblk _ _ _ k1 (by decide))]; rfl⟩, ⟨?_, fun q hq => ?_⟩⟩
      · rw [hf]
        have e : (Out.zero (Maps.size D)).cr.length = Maps.size D := by simp [Out.zero]
        have e2 : intsI (Out.zero (Maps.size D)).cr = List.replicate (Maps.size D) (.int .i64 0) := by simp [Out.zero, intsI]
        rw [e, e2]
        refine ⟨k2.1, ?_⟩
        rcases k2.2 with ⟨q, _⟩ | ⟨q, cap, cur, q1, q2, q3, q4⟩
        · cases q
        · exact Or.inr ⟨q, cap, cur, q1, Nat.zero_le _, hblk _ _ _ q3 (by decide), q4⟩
      · have hfo : f.2.ownBlock = some g2 := by rw [hf]; rfl
        rw [hfo] at hq
        obtain rfl : g2 = q := by simpa using hq
        rcases k2.2 with ⟨q, _⟩ | ⟨q, cap, cur, q1, q2, q3, q4⟩
        · cases q
        · obtain rfl : g2 = q := by simpa using (by simpa using q1 : g2 = q ∧ _).1
          rw [newLabs_cells (by omega) (hblk _ _ _ q3 (by decide)), apart_find h.ap hif hfo]
          rfl
  · refine ⟨?_, ?_⟩
    · obtain ⟨es, cl, hb, r⟩ := h.cm
      exact ⟨es, cl, hmap _ _ _ hb, r⟩
    · obtain ⟨es, cl, hb, r⟩ := h.cm
      rw [newLabs_map h.bbm (hmap _ _ _ hb), if_neg (fun e => h.ne e.symm)]
end Go.Proofs.YtojpjaifhjigfaaGreatDoor
