/- Steps of the proof (several texts in one): LineF, RefHead, RefResult, RefSubmit. -/
import Derived.Test.YtojpjaifhjigfaaGreatDoorMAllupto05
import Derived.Test.YtojpjaifhjigfaaGreatDoorMAllupto13
import Derived.Test.YtojpjaifhjigfaaGreatDoorMAllupto09
import Derived.BigQuiet
import Derived.Test.YtojpjaifhjigfaaGreatDoorMAllupto11
import Derived.Test.YtojpjaifhjigfaaGreatDoorMAllupto16

/- One destination of the document's agent: its cells, and how a store turns it. -/
namespace Go.Proofs.YtojpjaifhjigfaaGreatDoor
open Go.RowKit Go.Maps

/-- The destinations, one of which is this. -/
def LineF (w : World) (L : Labs) (who gl k : Nat) (ls : List Out) (d : Nat) (o : Out) : Prop := d < ls.length ∧ LinesAt w L who (.slice (some ⟨gl, 0, none⟩) ls.length k) (ls.set d o)
theorem LineF.keep {w w' : World} {L L' : Labs} {who gl k d : Nat} {ls : List Out} {o : Out} (h : LineF w L who gl k ls d o) {p : Lab → Prop} (s : Step p L w L' w') (h1 : ¬ p (some (who, .ol))) (h3 : ∀ i, ¬ p (some (who, .cr i))) : LineF w' L' who gl k ls d o := ⟨h.1, h.2.keep s h1 h3⟩
theorem LineF.drewN {w : World} {L : Labs} {who gl k d : Nat} {ls : List Out} {o : Out} (h : LineF w L who gl k ls d o) (n : Nat) : LineF (w.drewN n) L who gl k ls d o := h.keep (Step.drewN (p := fun _ => False) L w n) (fun h => h) (fun _ h => h)

/-- A store into a cell of it. -/
theorem LineF.put {w : World} {L : Labs} {who gl k d : Nat} {ls : List Out} {o : Out} (h : LineF w L who gl k ls d o) (j : Nat) (v : Value) (o' : Out) (hj : j < 9) (hcr : o'.cr = o.cr) (hc : ∀ cv, lineCells o' cv = (lineCells o cv).set j v) :
    LineF (w.setCell ⟨gl, d * 9 + j, none⟩ v) L who gl k ls d o' ∧ Step (olP who) L w L (w.setCell ⟨gl, d * 9 + j, none⟩ v) := by
  obtain ⟨hd, fs, hfl, hrow, hall⟩ := h
  simp only [List.length_set] at hfl hrow
  have hs : Step (olP who) L w L (w.setCell ⟨gl, d * 9 + j, none⟩ v) := Step.setCell _ _ _ _ (hrow.2 gl (by simp [Value.ownBlock]))
  obtain ⟨f, hf⟩ : ∃ f, fs[d]? = some f := ⟨_, List.getElem?_eq_getElem (by omega)⟩
  refine ⟨⟨hd, fs, by simpa using hfl, ?_, fun i x f' hx hf' => ?_⟩, hs⟩
  · have hr := hrow.set (d * 9 + j) v
    have hz : ((ls.set d o).zip fs)[d]? = some (o, f) := by simp [List.getElem?_zip_eq_some, hd, hf]
    have e := flat_set (fun p : Out × Value => lineCells p.1 p.2) 9 (fun _ => rfl) ((ls.set d o).zip fs) d j (o, f) (o', f) v hj hz (hc f)
    have e2 := set_zip (ls.set d o) fs d o' f hf
    rw [List.set_set] at e2
    rw [← e2] at e
    simp only [List.length_set]
    rw [← e]
    exact hr
  · by_cases e : i = d
    · subst e
      obtain rfl : x = o' := by simpa [hd, eq_comm] using hx
      have r3 := hall i o f' (by simp [hd]) hf'
      rw [hcr]
      exact r3.keep hs (by simp [olP])
    · have hx' : (ls.set d o)[i]? = some x := by
        rw [List.getElem?_set_ne (fun e' => e e'.symm)] at hx ⊢
        exact hx
      exact (hall i x f' hx' hf').keep hs (by simp [olP])

/-- Its cells. -/
structure LineCells (w : World) (L : Labs) (who gl d : Nat) (o : Out) (ca : Option Addr) (ck : Nat) : Prop where
  c0 : w.cell? ⟨gl, d * 9, none⟩ = some (.int .i64 o.res)
  c1 : w.cell? ⟨gl, d * 9 + 1, none⟩ = some (.int .i64 o.fl)
  c2 : w.cell? ⟨gl, d * 9 + 2, none⟩ = some (.bool o.trip)
  c3 : w.cell? ⟨gl, d * 9 + 3, none⟩ = some (.int .i64 o.unt)
  c4 : w.cell? ⟨gl, d * 9 + 4, none⟩ = some (.int .i64 o.turn)
  c5 : w.cell? ⟨gl, d * 9 + 5, none⟩ = some (.slice ca o.cr.length ck)
  c6 : w.cell? ⟨gl, d * 9 + 6, none⟩ = some (.int .i64 o.sends)
  c7 : w.cell? ⟨gl, d * 9 + 7, none⟩ = some (.int .i64 o.way)
  c8 : w.cell? ⟨gl, d * 9 + 8, none⟩ = some (.int .i64 o.began)
  fz : ∀ i, w.frozen? ⟨gl, i, none⟩ = false
  lt : gl < w.heap.size
  lab : L gl = some (who, .ol)
  cr : RowAt w L (some (who, .cr d)) 3 1 (.slice ca o.cr.length ck) o.cr.length (intsI o.cr)
theorem LineF.cells {w : World} {L : Labs} {who gl k d : Nat} {ls : List Out} {o : Out} (h : LineF w L who gl k ls d o) : ∃ ca ck, LineCells w L who gl d o ca ck := by
  obtain ⟨hd, fs, hfl, hrow, hall⟩ := h
  simp only [List.length_set] at hfl hrow
  obtain ⟨f, hf⟩ : ∃ f, fs[d]? = some f := ⟨_, List.getElem?_eq_getElem (by omega)⟩
  have r3 := hall d o f (by simp [hd]) hf
  obtain ⟨g', e, hlt, hlab, hcell, hfz⟩ := hrow.head (by omega)
  obtain rfl : gl = g' := by simpa using e
  have hz : ((ls.set d o).zip fs)[d]? = some (o, f) := by simp [List.getElem?_zip_eq_some, hd, hf]
  obtain ⟨ca, ck, rfl, _⟩ := r3.shape
  have hc := fun j v (hj : j < 9) hv => hcell (d * 9 + j) v (flat_cell (fun p : Out × Value => lineCells p.1 p.2) 9 (fun _ => rfl) hz hj hv)
  exact ⟨ca, ck, ⟨hc 0 _ (by omega) rfl, hc 1 _ (by omega) rfl, hc 2 _ (by omega) rfl, hc 3 _ (by omega) rfl, hc 4 _ (by omega) rfl, hc 5 _ (by omega) rfl, hc 6 _ (by omega) rfl, hc 7 _ (by omega) rfl, hc 8 _ (by omega) rfl, hfz, hlt, hlab, r3⟩⟩
theorem LineF.full {w : World} {L : Labs} {who gl k d : Nat} {ls : List Out} {o : Out} (h : LineF w L who gl k ls d o) (hn : 0 < o.cr.length) : ∃ gc ck, LineCells w L who gl d o (some ⟨gc, 0, none⟩) ck ∧ gc ≠ gl ∧ gc < w.heap.size ∧ (∀ i, i < o.cr.length → w.cell? ⟨gc, i, none⟩ = some (.int .i64 (o.cr.getD i 0))) ∧ ∀ i, w.frozen? ⟨gc, i, none⟩ = false := by
  obtain ⟨ca, ck, hC⟩ := h.cells
  obtain ⟨gc, rfl, hlt, hlab, hcell, hfz⟩ := hC.cr.head hn
  refine ⟨gc, ck, hC, fun e => ?_, hlt, fun i hi => ?_, hfz⟩
  · subst e
    rw [hC.lab] at hlab
    simp at hlab
  · exact hcell i _ (by simp [intsI, List.getD_eq_getElem?_getD, hi])

/-- A store into its credits. -/
theorem LineF.credit {w : World} {L : Labs} {who gl k d : Nat} {ls : List Out} {o : Out} {gc ck : Nat} (h : LineF w L who gl k ls d o) (hC : LineCells w L who gl d o (some ⟨gc, 0, none⟩) ck) (t : Nat) (v : Int) :
    LineF (w.setCell ⟨gc, t, none⟩ (.int .i64 v)) L who gl k ls d { o with cr := o.cr.set t v } ∧ Step (fun l => l = some (who, .cr d)) L w L (w.setCell ⟨gc, t, none⟩ (.int .i64 v)) := by
  obtain ⟨hd, fs, hfl, hrow, hall⟩ := h
  simp only [List.length_set] at hfl hrow
  have hs : Step (fun l => l = some (who, .cr d)) L w L (w.setCell ⟨gc, t, none⟩ (.int .i64 v)) := Step.setCell _ _ _ _ (hC.cr.2 gc (by simp [Value.ownBlock]))
  obtain ⟨f, hf⟩ : ∃ f, fs[d]? = some f := ⟨_, List.getElem?_eq_getElem (by omega)⟩
  have hz : ((ls.set d o).zip fs)[d]? = some (o, f) := by simp [List.getElem?_zip_eq_some, hd, hf]
  have hf2 : f = .slice (some ⟨gc, 0, none⟩) o.cr.length ck := by
    obtain ⟨g', e, hlt, hlab, hcell, hfz⟩ := hrow.head (by omega)
    obtain rfl : gl = g' := by simpa using e
    have := hcell (d * 9 + 5) _ (flat_cell (fun p : Out × Value => lineCells p.1 p.2) 9 (fun _ => rfl) hz (j := 5) (by omega) rfl)
    rw [hC.c5] at this
    simpa using this.symm
  refine ⟨⟨hd, fs, by simpa using hfl, ?_, fun i x f' hx hf' => ?_⟩, hs⟩
  · have hr := hrow.keep hs (by simp)
    have e : (((ls.set d o).zip fs).flatMap fun p : Out × Value => lineCells p.1 p.2) = (((ls.set d { o with cr := o.cr.set t v }).zip fs).flatMap fun p : Out × Value => lineCells p.1 p.2) := by
      rw [set_zip ls fs d o f hf, set_zip ls fs d _ f hf]
      apply List.ext_getElem?
      intro i
      have h9 : i = i / 9 * 9 + i % 9 := by omega
      rw [h9, flat_get (fun p : Out × Value => lineCells p.1 p.2) 9 (fun _ => rfl) _ _ _ (by omega), flat_get (fun p : Out × Value => lineCells p.1 p.2) 9 (fun _ => rfl) _ _ _ (by omega)]
      by_cases e : d = i / 9
      · subst e
        simp only [List.getElem?_set, if_true]
        split <;> rfl
      · rw [List.getElem?_set_ne e, List.getElem?_set_ne e]
    simp only [List.length_set]
    rw [← e]
    exact hr
  · by_cases e : i = d
    · subst e
      obtain rfl : x = { o with cr := o.cr.set t v } := by simpa [hd, eq_comm] using hx
      obtain rfl : f = f' := by rw [hf] at hf'; exact Option.some.inj hf'
      have r3 := hall i o f (by simp [hd]) hf
      rw [hf2] at r3 ⊢
      have := r3.set t (.int .i64 v)
      simpa [intsI, List.map_set] using this
    · have hx' : (ls.set d o)[i]? = some x := by
        rw [List.getElem?_set_ne (fun e' => e e'.symm)] at hx ⊢
        exact hx
      exact (hall i x f' hx' hf').keep hs (by simp; exact e)

/-- The document's agent's parts beside its destinations. -/
theorem RfAt.outs {w w' : World} {L L' : Labs} {who g : Nat} {R : Rf} {nv qv bv dv : Value} {la : Option Addr} {lk : Nat} {ls : List Out} (h : RfAt w L who g R nv qv bv dv la lk) {p : Lab → Prop} (s : Step p L w L' w') (hp : ∀ q, p (some (who, q)) → q = .ol ∨ ∃ d, q = .cr d) (hl : LinesAt w' L' who (.slice la R.c.d.toNat lk) ls) (hn : ls.length = R.ls.length) : RfAt w' L' who g { R with ls := ls } nv qv bv dv la lk :=
  ⟨h.blk.keep s (fun e => by rcases hp _ e with e | ⟨d, e⟩ <;> cases e), h.nm.keep s (fun e => by rcases hp _ e with e | ⟨d, e⟩ <;> cases e), h.tk.keep s (fun e => by rcases hp _ e with e | ⟨d, e⟩ <;> cases e), h.dd.keep s (fun e => by rcases hp _ e with e | ⟨d, e⟩ <;> cases e), h.qu.keep s (fun e => by rcases hp _ e with e | ⟨d, e⟩ <;> cases e), hl, hn.trans h.ln⟩
/-- The destination of this place. -/
theorem RfAt.focus {w : World} {L : Labs} {who g : Nat} {R : Rf} {nv qv bv dv : Value} {la : Option Addr} {lk : Nat} (h : RfAt w L who g R nv qv bv dv la lk) {d : Nat} {o : Out} (ho : R.ls[d]? = some o) : ∃ gl, la = some ⟨gl, 0, none⟩ ∧ LineF w L who gl lk R.ls d o := by
  have hd := (List.getElem?_eq_some_iff.1 ho).1
  obtain ⟨fs, h1, h2, h3⟩ := h.ll
  rw [← h.ln] at h2
  obtain ⟨gl, rfl, _⟩ := h2.head (by omega)
  refine ⟨gl, rfl, hd, ?_⟩
  rw [set_self _ _ _ ho]
  exact ⟨fs, h1, h2, h3⟩
end Go.Proofs.YtojpjaifhjigfaaGreatDoor

/- head: the first pending batch of a destination and a tenant, if it may go. -/
namespace Go.Proofs.YtojpjaifhjigfaaGreatDoor
open Go.RowKit Go.Maps

/-- The place of what may go of a lane: -1, if nothing may. -/
def Rf.hd (R : Rf) (d : Int) (x : List UInt8) : Int := match pend R.bs d x with | [] => -1 | p :: _ => if R.time < (R.rs[p]?.map (·.af)).getD 0 then -1 else p

theorem pend_none {bs : List Bat} {d : Int} {x : List UInt8} (h : ∀ j, j < bs.length → isP bs d x j = false) : pend bs d x = [] := by
  rw [pend_range, List.filter_eq_nil_iff]
  intro j hj
  rw [h j (List.mem_range.1 hj)]
  simp
theorem pend_first {bs : List Bat} {d : Int} {x : List UInt8} {k : Nat} (hk : k < bs.length) (h : ∀ j, j < k → isP bs d x j = false) (hp : isP bs d x k = true) : ∃ ps, pend bs d x = k :: ps := by
  rw [pend_range]
  have e : List.range bs.length = List.range k ++ (k :: (List.range' (k + 1) (bs.length - (k + 1)))) := by
    rw [List.range_eq_range', List.range_eq_range', ← List.range'_succ]
    have := @List.range'_append_1 0 k (bs.length - (k + 1) + 1)
    rw [Nat.zero_add] at this
    rw [this]
    congr 1
    omega
  have e2 : (List.range k).filter (isP bs d x) = [] := by
    rw [List.filter_eq_nil_iff]
    intro j hj
    rw [h j (List.mem_range.1 hj)]
    simp
  rw [e, List.filter_append, e2, List.nil_append, List.filter_cons, if_pos hp]
  exact ⟨_, rfl⟩

theorem infoRefBatchS : (Tryz.prog.info? 112).map (·.size) = some 8 := by kernel_rfl

set_option maxRecDepth 100000 in
set_option maxHeartbeats 2000000 in
theorem refHead_any (L : Labs) (who g : Nat) (R : Rf) (d : Int) (x : List UInt8) (w : World) (h : RefAt w L who g R) (hb : R.rs.length ≤ 120) :
    Calls Tryz.prog 148 #[.pointer (some ⟨g, 0, none⟩), .int .i64 d, encStr x] w fun e w' => e = .returned (.int .i64 (R.hd d x)) ∧ Below w.heap.size w w' := by
  obtain ⟨nv, qv, bv, dv, la, lk, h⟩ := h
  obtain ⟨ta, tc, rfl, _⟩ := h.tk.shape
  have c13 : Hid (w.cell? ⟨g, 13, none⟩ = some (.slice ta R.rs.length tc)) := h.blk.1.cell 13
  have c16 : Hid (w.cell? ⟨g, 16, none⟩ = some (.int .i64 R.time)) := h.blk.1.cell 16
  have HT := hide h.tk
  have hgl := h.blk.1.lt
  have hbl : R.bs.length = R.rs.length := by simp [Rf.bs]
  generalize hn : R.rs.length = n at *
  have Hn := hide hn
  have Hbl := hide hbl
  clear h hn hbl
  go_enter Tryz.func148, Tryz.ntmps148
  go_wp2_with fail
  go_loopw [7] (fun i wr => ∃ k : Nat, k ≤ n ∧ i = .int .i64 k ∧ (∀ j, j < k → isP R.bs d x j = false) ∧ Below w.heap.size w wr) (fun i _ => n - (intOf i).toNat)
  case atStart => exact ⟨0, Nat.zero_le _, rfl, fun j hj => by omega, Below.refl _ _⟩
  case round =>
    obtain ⟨k, hk, rfl, hno, hnx⟩ := hrel
    have Hno := hide hno
    have Hnx := hide hnx
    have d13 : wr.cell? ⟨g, 13, none⟩ = some (.slice ta n tc) := (hnx.cell (p := ⟨g, 13, none⟩) hgl).trans c13.out
    have d16 : wr.cell? ⟨g, 16, none⟩ = some (.int .i64 R.time) := (hnx.cell (p := ⟨g, 16, none⟩) hgl).trans c16.out
    have hgw : g < wr.heap.size := Nat.lt_of_lt_of_le hgl hnx.size
    clear hno hnx
    by_cases hlt : k < n
    · have hltI : (k : Int) < (n : Int) := by omega
      obtain ⟨gt, rfl, hgt, _, hct, _⟩ := HT.out.head (by omega)
      obtain ⟨r, hr⟩ : ∃ r, R.rs[k]? = some r := ⟨_, List.getElem?_eq_getElem (by rw [Hn.out]; exact hlt)⟩
      have HRg : Hid (wr.rangeAt gt (k * 8) r.cells) := fun j u hu => (Hnx.out.cell (p := ⟨gt, _, none⟩) hgt).trans (hct _ u (flat_cell RBat.cells 8 RBat.cells_length hr (List.getElem?_eq_some_iff.1 hu).1 hu))
      have HisP : Hid (isP R.bs d x k = (decide (r.b.dst = d) && decide (r.b.ten = x) && decide (r.b.st = 1))) := by show _ = _; unfold isP; rw [Rf.get hr]
      have Hr := hide hr
      clear hct hr
      have HNext : Hid (isP R.bs d x k = false → ∀ j, j < k + 1 → isP R.bs d x j = false) := fun h0 j hj => by
        rcases Nat.lt_succ_iff_lt_or_eq.1 hj with h1 | h1
        · exact Hno.out j h1
        · rw [h1]; exact h0
      by_cases hst : r.b.st = 1
      · by_cases hd : r.b.dst = d
        · cases hx : (r.b.ten == x)
          · have Hx : Hid (¬ r.b.ten = x) := fun e => by rw [e] at hx; simp at hx
            have Hst := hide hst
            have Hd := hide hd
            go_wp2_with (first
              | (refine wpList_load_mid rfl 112 _ rfl gt (k * 8) rfl [.int .i64 r.b.dst, encStr r.b.ten, encStr r.b.id, encStr r.b.body, .int .i64 r.b.st, .int .i64 r.b.fl, .int .i64 r.pa, .int .i64 r.af] _ HRg.out Tryz.underlying112 rfl infoRefBatchS ?_)
              | fail)
            go_roundw
            case rel => exact ⟨k + 1, by omega, by go_num, HNext.out (by rw [HisP.out, decide_eq_false Hx.out]; simp), Hnx.out.alloc Hnx.out.size _⟩
            case measure => simp [intOf]; omega
          · have Hx : Hid (r.b.ten = x) := by show _ = _; simpa using hx
            have Hst := hide hst
            have Hd := hide hd
            have hP : isP R.bs d x k = true := by rw [HisP.out, hst, hd, Hx.out]; simp
            obtain ⟨ps, hps⟩ := pend_first (by rw [Hbl.out]; exact hlt) Hno.out hP
            have HRes : Hid (R.hd d x = if R.time < r.af then -1 else (k : Int)) := by
              show _ = _
              unfold Rf.hd
              rw [hps]
              simp only
              rw [Hr.out]
              rfl
            clear hP hps
            by_cases haf : R.time < r.af
            all_goals
              have Haf := hide haf
              go_wp2_with (first
                | (refine wpList_load_mid rfl 112 _ rfl gt (k * 8) rfl [.int .i64 r.b.dst, encStr r.b.ten, encStr r.b.id, encStr r.b.body, .int .i64 r.b.st, .int .i64 r.b.fl, .int .i64 r.pa, .int .i64 r.af] _ HRg.out Tryz.underlying112 rfl infoRefBatchS ?_)
                | fail)
              go_quiet (fail)
              go_wp2_with fail
              go_ret
              refine ⟨ret_int ?_, below_drewN (Hnx.out.alloc Hnx.out.size _) _⟩
              rw [HRes.out]
              first | rw [if_pos Haf.out] | rw [if_neg (by have := Haf.out; omega)]
        · have Hd := hide hd
          go_wp2_with (first
            | (refine wpList_load_mid rfl 112 _ rfl gt (k * 8) rfl [.int .i64 r.b.dst, encStr r.b.ten, encStr r.b.id, encStr r.b.body, .int .i64 r.b.st, .int .i64 r.b.fl, .int .i64 r.pa, .int .i64 r.af] _ HRg.out Tryz.underlying112 rfl infoRefBatchS ?_)
            | fail)
          go_roundw
          case rel => exact ⟨k + 1, by omega, by go_num, HNext.out (by rw [HisP.out, decide_eq_false Hd.out]; simp), Hnx.out.alloc Hnx.out.size _⟩
          case measure => simp [intOf]; omega
      · have Hst := hide hst
        go_wp2_with (first
          | (refine wpList_load_mid rfl 112 _ rfl gt (k * 8) rfl [.int .i64 r.b.dst, encStr r.b.ten, encStr r.b.id, encStr r.b.body, .int .i64 r.b.st, .int .i64 r.b.fl, .int .i64 r.pa, .int .i64 r.af] _ HRg.out Tryz.underlying112 rfl infoRefBatchS ?_)
          | fail)
        go_roundw
        case rel => exact ⟨k + 1, by omega, by go_num, HNext.out (by rw [HisP.out, decide_eq_false Hst.out]; simp), Hnx.out.alloc Hnx.out.size _⟩
        case measure => simp [intOf]; omega
    · go_wp2_with fail
      go_ret
      refine ⟨ret_int ?_, Hnx.out⟩
      unfold Rf.hd
      rw [pend_none (fun j hj => Hno.out j (by rw [Hbl.out] at hj; omega))]
end Go.Proofs.YtojpjaifhjigfaaGreatDoor

/- result: what a result makes of a destination of the document's. -/
namespace Go.Proofs.YtojpjaifhjigfaaGreatDoor
open Go.RowKit Go.Maps

/-- What a result makes of a destination. -/
def Out.result (o : Out) (c : Cfg) (now : Int) (good : Bool) : Out :=
  if o.trip then { o with trip := !good, unt := now + c.op } else
  if decide (c.le ≤ o.res + 1) && tooMany c.th (if good then o.fl else o.fl + 1) (o.res + 1) then { o with trip := true, unt := now + c.op, res := 0, fl := 0 } else
  if c.wi ≤ o.res + 1 then { o with res := 0, fl := 0 } else { o with res := o.res + 1, fl := if good then o.fl else o.fl + 1 }

theorem Step.cellSame {p : Lab → Prop} {L L' : Labs} {w w' : World} (s : Step p L w L' w') {b : Nat} (o : Nat) (hb : b < w.heap.size) (hp : ¬ p (L b)) : w'.cell? ⟨b, o, none⟩ = w.cell? ⟨b, o, none⟩ := by
  simp only [World.cell?, s.block b hb hp]

/-- What result leaves. -/
def Resulted (w : World) (L : Labs) (who gl k : Nat) (ls : List Out) (d : Nat) (o : Out) (w' : World) : Prop := LineF w' L who gl k ls d o ∧ Step (olP who) L w L w'

theorem LineF.put2 {w : World} {L : Labs} {who gl k d : Nat} {ls : List Out} {o o1 o2 : Out} (h : LineF w L who gl k ls d o) (i j : Nat) (v u : Value) (hi : i < 9) (hj : j < 9) (h1 : o1.cr = o.cr) (h2 : o2.cr = o1.cr) (c1 : ∀ cv, lineCells o1 cv = (lineCells o cv).set i v) (c2 : ∀ cv, lineCells o2 cv = (lineCells o1 cv).set j u) :
    Resulted w L who gl k ls d o2 ((w.setCell ⟨gl, d * 9 + i, none⟩ v).setCell ⟨gl, d * 9 + j, none⟩ u) := by
  obtain ⟨a1, s1⟩ := h.put i v o1 hi h1 c1
  obtain ⟨a2, s2⟩ := a1.put j u o2 hj h2 c2
  exact ⟨a2, s1.trans s2⟩
theorem Resulted.drewN {w w' : World} {L : Labs} {who gl k d : Nat} {ls : List Out} {o : Out} (h : Resulted w L who gl k ls d o w') (n : Nat) : Resulted w L who gl k ls d o (w'.drewN n) := ⟨h.1.drewN n, h.2.trans (Step.drewN L w' n)⟩

set_option maxRecDepth 100000 in
set_option maxHeartbeats 4000000 in
theorem refResult_any (L : Labs) (who g gl k d n : Nat) (ls : List Out) (o : Out) (good : Bool) (c : Cfg) (now : Int) (w : World) (h : LineF w L who gl k ls d o) (c15 : w.cell? ⟨g, 15, none⟩ = some (.slice (some ⟨gl, 0, none⟩) n k)) (hdn : d < n) (hgL : L g = some (who, .ag))
    (c16 : w.cell? ⟨g, 16, none⟩ = some (.int .i64 now)) (c10 : w.cell? ⟨g, 10, none⟩ = some (.int .i64 c.op)) (c9 : w.cell? ⟨g, 9, none⟩ = some (.float .f64 c.th)) (c8 : w.cell? ⟨g, 8, none⟩ = some (.int .i64 c.le)) (c7 : w.cell? ⟨g, 7, none⟩ = some (.int .i64 c.wi))
    (h0 : 0 ≤ o.res) (h1 : o.res ≤ 63) (h2 : 0 ≤ o.fl) (h3 : o.fl ≤ o.res) (hn0 : 0 ≤ now) (hn1 : now ≤ 1000000000000000000) (hp0 : 0 ≤ c.op) (hp1 : c.op ≤ 60000) :
    Calls Tryz.prog 147 #[.pointer (some ⟨g, 0, none⟩), .int .i64 d, .bool good] w fun e w' => e = .returned (.tuple #[]) ∧ Resulted w L who gl k ls d (o.result c now good) w' := by
  have hdI : (d : Int) < (n : Int) := by omega
  have hgl := World.block_lt_of_cell? w _ c15
  obtain ⟨oR, hoR⟩ : ∃ oR, o.result c now good = oR := ⟨_, rfl⟩
  rw [hoR]
  obtain ⟨ca, ck, hC⟩ := h.cells
  have l0 := hC.c0
  have l1 := hC.c1
  have l2 := hC.c2
  have l3 := hC.c3
  have fz := hC.fz
  have hlt := hC.lt
  have HL := hide h
  cases ht : o.trip
  · rw [ht] at l2
    have HoR : Hid ((if decide (c.le ≤ o.res + 1) && tooMany c.th (if good then o.fl else o.fl + 1) (o.res + 1) then { o with trip := true, unt := now + c.op, res := 0, fl := 0 } else if c.wi ≤ o.res + 1 then { o with res := 0, fl := 0 } else { o with res := o.res + 1, fl := if good then o.fl else o.fl + 1 }) = oR) := by
      rw [← hoR]
      show _ = _
      unfold Out.result
      rw [ht]
      rfl
    obtain ⟨f, hf⟩ : ∃ f : Int, f = if good then o.fl else o.fl + 1 := ⟨_, rfl⟩
    have hfb : 0 ≤ f ∧ f ≤ 64 := by cases good <;> simp at hf <;> omega
    have hquo : ∀ (w : World) (t : TypeId), (binOp .quo t (.float .f64 (floatOfInt .f64 f)) (.float .f64 (floatOfInt .f64 (o.res + 1)))).run Tryz.prog w = .ok (.float .f64 (quot f (o.res + 1))) w := fun w t => run_float_arith w .quo t .f64 _ _ _ (quot_some hfb.1 hfb.2 (by omega) (by omega))
    rw [← hf] at HoR
    obtain ⟨tm, htm⟩ : ∃ tm, tooMany c.th f (o.res + 1) = tm := ⟨_, rfl⟩
    rw [htm] at HoR
    have HTm := hide htm
    clear htm
    have HF : Hid (∀ W, W = (if good then (w.setCell ⟨gl, d * 9, none⟩ (.int .i64 (o.res + 1))) else ((w.setCell ⟨gl, d * 9, none⟩ (.int .i64 (o.res + 1))).setCell ⟨gl, d * 9 + 1, none⟩ (.int .i64 f))) → LineF W L who gl k ls d { o with res := o.res + 1, fl := f } ∧ Step (olP who) L w L W) := by
      rintro W rfl
      obtain ⟨a1, s1⟩ := h.put 0 (.int .i64 (o.res + 1)) { o with res := o.res + 1 } (by omega) rfl (fun _ => rfl)
      cases good
      · obtain ⟨a2, s2⟩ := a1.put 1 (.int .i64 f) { o with res := o.res + 1, fl := f } (by omega) rfl (fun _ => rfl)
        exact ⟨a2, s1.trans s2⟩
      · have e : f = o.fl := by simpa using hf
        subst e
        exact ⟨a1, s1⟩
    have HG : Hid (∀ W o, Step (olP who) L w L W → W.cell? ⟨g, o, none⟩ = w.cell? ⟨g, o, none⟩) := fun W o s => s.cellSame o hgl (by rw [hgL]; simp [olP])
    have HC7 := hide c7
    have HC8 := hide c8
    have HC9 := hide c9
    have HC10 := hide c10
    have HC16 := hide c16
    have HPz := hide (fun X f' (hX : LineF X L who gl k ls d { o with res := o.res + 1, fl := f' }) => hX.put2 (o1 := { o with res := 0, fl := f' }) (o2 := { o with res := 0, fl := 0 }) 0 1 (.int .i64 0) (.int .i64 0) (by omega) (by omega) rfl rfl (fun _ => rfl) (fun _ => rfl))
    have HPt := hide (fun X f' (hX : LineF X L who gl k ls d { o with res := o.res + 1, fl := f' }) => hX.put2 (o1 := { o with res := o.res + 1, fl := f', trip := true }) (o2 := { o with res := o.res + 1, fl := f', trip := true, unt := now + c.op }) 2 3 (.bool true) (.int .i64 (now + c.op)) (by omega) (by omega) rfl rfl (fun _ => rfl) (fun _ => rfl))
    have HPtz := hide (fun X f' (hX : LineF X L who gl k ls d { o with res := o.res + 1, fl := f', trip := true, unt := now + c.op }) => hX.put2 (o1 := { o with res := 0, fl := f', trip := true, unt := now + c.op }) (o2 := { o with res := 0, fl := 0, trip := true, unt := now + c.op }) 0 1 (.int .i64 0) (.int .i64 0) (by omega) (by omega) rfl rfl (fun _ => rfl) (fun _ => rfl))
    have HTr := hide ht
    clear h hC ht hfb c7 c8 c9 c10 c16 hoR
    cases good
    all_goals
      simp only [Bool.false_eq_true, if_true, if_false] at hf
      subst hf
      go_enter Tryz.func147, Tryz.ntmps147
      go_upto_region 7 with fail
      generalize hW : World.setCell _ _ _ = W
      obtain ⟨hF, hS⟩ := HF.out W (by first | exact hW.symm | (rw [← hW]; rfl))
      clear hW
      obtain ⟨ca2, ck2, hC2⟩ := hF.cells
      have m0 : W.cell? ⟨gl, d * 9, none⟩ = some (.int .i64 (o.res + 1)) := hC2.c0
      have m1 := hC2.c1
      have g9 := (HG.out W 9 hS).trans HC9.out
      have g8 := (HG.out W 8 hS).trans HC8.out
      have HFW := hide hF
      have HSW := hide hS
      clear hF hS hC2 l0 l1 l2 l3 fz
      go_quiet (fail)
      go_upto_region 8 with fail
      go_cut [81] (fun s81 wx => s81 = .bool (decide (c.le ≤ o.res + 1) && tm) ∧ ∃ q, wx = W.drewN q)
      case first =>
        by_cases hle : c.le ≤ o.res + 1
        · have hld : decide (c.le ≤ o.res + 1) = true := by simpa using hle
          go_quiet (fail)
          go_wp2_with fail
          go_meet
          exact ⟨by rw [hld, ← HTm.out, tooMany]; simp, _, rfl⟩
        · have hld : decide (c.le ≤ o.res + 1) = false := by simpa using hle
          go_quiet (fail)
          go_wp2_with fail
          go_meet
          exact ⟨by rw [hld, ← HTm.out, tooMany]; simp, _, rfl⟩
      case rest =>
      obtain ⟨rfl, q, rfl⟩ := hcut
      have hS2 : Step (olP who) L w L (W.drewN q) := HSW.out.trans (Step.drewN L W q)
      have hF2 := HFW.out.drewN q
      obtain ⟨ca3, ck3, hC3⟩ := hF2.cells
      have HF2 := hide hF2
      have HS2 := hide hS2
      have n0 : (W.drewN q).cell? ⟨gl, d * 9, none⟩ = some (.int .i64 (o.res + 1)) := hC3.c0
      have n1 := hC3.c1
      have n2 : (W.drewN q).cell? ⟨gl, d * 9 + 2, none⟩ = some (.bool o.trip) := hC3.c2
      have n3 : (W.drewN q).cell? ⟨gl, d * 9 + 3, none⟩ = some (.int .i64 o.unt) := hC3.c3
      have nf := hC3.fz
      have nl := hC3.lt
      have k16 := (HG.out _ 16 hS2).trans HC16.out
      have k10 := (HG.out _ 10 hS2).trans HC10.out
      have k7 := (HG.out _ 7 hS2).trans HC7.out
      rw [HTr.out] at n2
      generalize hX : W.drewN q = X at *
      have HgX : Hid (g ≠ gl) := fun e => by
        have h1 := hC3.lab
        rw [← e, hgL] at h1
        simp at h1
      have hng := HgX.out
      clear hX hF2 hS2 hC3 m0 m1 g9 g8
      cases hcd : (decide (c.le ≤ o.res + 1) && tm)
      · have Hcd := hide hcd
        by_cases hwi : c.wi ≤ o.res + 1
        · have hwd : decide (c.wi ≤ o.res + 1) = true := by simpa using hwi
          have Hwi := hide hwi
          have HU := hide (HPz.out _ _ HF2.out)
          go_wp2_with fail
          go_quiet (fail)
          go_wp2_with fail
          first | go_end0 | refine bodyPost_ret (results_none rfl _ _ _) rfl ?_
          refine ⟨rfl, ?_⟩
          rw [← HoR.out, if_neg (by rw [Hcd.out]; simp), if_pos Hwi.out]
          exact ⟨(HU.out.drewN _).1, HS2.out.trans (HU.out.drewN _).2⟩
        · have hwd : decide (c.wi ≤ o.res + 1) = false := by simpa using hwi
          have Hwi := hide hwi
          go_wp2_with fail
          go_quiet (fail)
          go_wp2_with fail
          first | go_end0 | refine bodyPost_ret (results_none rfl _ _ _) rfl ?_
          refine ⟨rfl, ?_⟩
          rw [← HoR.out, if_neg (by rw [Hcd.out]; simp), if_neg (show ¬ c.wi ≤ o.res + 1 by have := Hwi.out; omega)]
          exact ⟨HF2.out.drewN _, HS2.out.trans (Step.drewN L X _)⟩
      · have Hcd := hide hcd
        have HU := hide (HPt.out _ _ HF2.out)
        go_upto_region 9 with fail
        go_upto_region 10 with fail
        go_cut [] (fun wx => ∃ f', Resulted X L who gl k ls d { o with res := o.res + 1, fl := f', trip := true, unt := now + c.op } wx)
        case first =>
          go_region
          all_goals
            go_wp2_with fail
            go_meet
            exact ⟨_, HU.out.drewN 1⟩
        case rest =>
        obtain ⟨f', hF5, hS5⟩ := hcut
        obtain ⟨ca5, ck5, hC5⟩ := hF5.cells
        have HU5 := hide (HPtz.out _ _ hF5)
        have HS5 := hide hS5
        have p0 : wc.cell? ⟨gl, d * 9, none⟩ = some (.int .i64 (o.res + 1)) := hC5.c0
        have p1 := hC5.c1
        have p2 : wc.cell? ⟨gl, d * 9 + 2, none⟩ = some (.bool true) := hC5.c2
        have pf := hC5.fz
        have pl := hC5.lt
        clear hF5 hS5 hC5 n0 n1 n2 n3 nf nl k16 k10 k7
        go_wp2_with fail
        go_quiet (fail)
        go_wp2_with fail
        first | go_end0 | refine bodyPost_ret (results_none rfl _ _ _) rfl ?_
        refine ⟨rfl, ?_⟩
        rw [← HoR.out, if_pos Hcd.out]
        exact ⟨(HU5.out.drewN _).1, HS2.out.trans (HS5.out.trans (HU5.out.drewN _).2)⟩
  · rw [ht] at l2
    have hne : g ≠ gl := fun e => by
      have h1 := hC.lab
      rw [← e, hgL] at h1
      simp at h1
    have HoR : Hid ({ o with trip := !good, unt := now + c.op } = oR) := by
      rw [← hoR]
      show _ = _
      unfold Out.result
      rw [ht]
      rfl
    have HU := hide (h.put2 (o1 := { o with trip := !good }) (o2 := { o with trip := !good, unt := now + c.op }) 2 3 (.bool (!good)) (.int .i64 (now + c.op)) (by omega) (by omega) rfl rfl (fun _ => rfl) (fun _ => rfl))
    clear h hC ht c7 c8 c9 hoR
    cases good
    all_goals
      go_enter Tryz.func147, Tryz.ntmps147
      go_wp2_with fail
      go_region
      all_goals
        go_wp2_with fail
        first | go_end0 | refine bodyPost_ret (results_none rfl _ _ _) rfl ?_
        refine ⟨rfl, ?_⟩
        rw [← HoR.out]
        exact HU.out.drewN 1
end Go.Proofs.YtojpjaifhjigfaaGreatDoor

/- Submit: the document's side. -/
namespace Go.Proofs.YtojpjaifhjigfaaGreatDoor
open Go.RowKit Go.Maps

/-- Why the document refuses a batch. -/
def Rf.refusal (R : Rf) (b : Bat) : Nat :=
  if ¬ (0 ≤ b.dst ∧ b.dst < R.c.d) then 3 else if findN R.ns b.ten < 0 then 4 else if b.id.length < 1 ∨ 16 < b.id.length then 5 else if 63 < b.body.length then 6 else if 0 ≤ findId R.bs b.id then 7 else if 120 ≤ R.rs.length then 8 else if R.c.q ≤ cntP R.bs b.ten then 9 else 0
def Rf.taken (R : Rf) (b : Bat) : Rf := { R with rs := R.rs ++ [⟨b.fresh, R.c.ba, 0⟩] }
def Rf.submitted (R : Rf) (b : Bat) : Rf := if R.refusal b = 0 then R.taken b else R
def TurnedR (w : World) (L : Labs) (who g : Nat) (R : Rf) (w' : World) : Prop := ∃ L', RefAt w' L' who g R ∧ Step (ofP who) L w L' w'

theorem infoRefBatch3 : (Tryz.prog.info? 112).map (fun i => (i.zero, i.size, i.bytes)) = some (some (.agg #[.int .i64 0, .string ⟨#[]⟩, .string ⟨#[]⟩, .string ⟨#[]⟩, .int .i64 0, .int .i64 0, .int .i64 0, .int .i64 0]), 8, 88) := by kernel_rfl

theorem refCells_set13 (c : Cfg) (m : Option Nat) (nv qv bv bv' dv lv : Value) (t : Int) : (refCells c m nv qv bv dv lv t).setIfInBounds 13 bv' = refCells c m nv qv bv' dv lv t := by
  apply Array.ext'
  rw [Array.toList_setIfInBounds]
  rfl

theorem rtaken_step {wc w2 : World} {o : Obj} {L : Labs} {who g g2 cap2 lk : Nat} {nv qv bv dv : Value} {la : Option Addr} {R : Rf} {r : RBat} (hA : RfAt wc L who g R nv qv bv dv la lk)
    (ho2 : w2.ownsRow 0 112 8 (.slice (some ⟨g2, 0, none⟩) (R.rs.length + 1) cap2) (R.rs.length + 1) (R.rs.flatMap RBat.cells ++ r.cells)) (hg2 : (wc.alloc o).drew.grownBy w2 bv.ownBlock) (hat2 : bv.ownBlock = some g2 ∨ g2 = wc.heap.size + 1) :
    TurnedR wc L who g { R with rs := R.rs ++ [r] } (w2.setCell ⟨g, 13, none⟩ (.slice (some ⟨g2, 0, none⟩) (R.rs.length + 1) cap2)) := by
  have s1 : Step (fun l => l = some (who, .tk)) L wc L (wc.alloc o).drew := (Step.alloc L wc o).trans (Step.drew L _)
  have s0 : Step (fun _ => False) L wc L (wc.alloc o).drew := (Step.alloc L wc o).trans (Step.drew L _)
  have a2' := hA.tk.keep s0 (fun h => h)
  obtain ⟨hr2, hl2⟩ := a2'.appended ho2 (hat2.imp_right (fun e => by simp; omega))
  have s2 : Step (fun l => l = some (who, .tk)) L wc (lay L g2 (some (who, .tk))) w2 := s1.trans (Step.of_grown hg2 (fun j hj => a2'.2 j hj) hl2)
  have b1 := hA.blk.keep s2 (by simp)
  have s3 : Step (fun l => l = some (who, .ag)) (lay L g2 (some (who, .tk))) w2 (lay L g2 (some (who, .tk))) (w2.setCell ⟨g, 13, none⟩ (.slice (some ⟨g2, 0, none⟩) (R.rs.length + 1) cap2)) := Step.setCell _ _ _ _ b1.2
  refine ⟨lay L g2 (some (who, .tk)), ⟨nv, qv, .slice (some ⟨g2, 0, none⟩) (R.rs.length + 1) cap2, dv, la, lk, ?_, ?_, ?_, ?_, (hA.qu.keep s2 (by simp)).keep s3 (by simp), (hA.ll.keep s2 (by simp) (by simp)).keep s3 (by simp) (by simp), hA.ln⟩, (s2.mono (fun l h => ⟨_, h⟩)).trans (s3.mono (fun l h => ⟨_, h⟩))⟩
  · refine ⟨?_, b1.2⟩
    rw [← refCells_set13 R.c R.m nv qv bv]
    exact b1.1.set 13 _
  · exact (hA.nm.keep s2 (by simp)).keep s3 (by simp)
  · have := hr2.keep s3 (by simp)
    simpa [List.flatMap_append] using this
  · exact (hA.dd.keep s2 (by simp)).keep s3 (by simp)

theorem below_drewN {B : Nat} {a w : World} (h : Below B a w) (n : Nat) : Below B a (w.drewN n) := ⟨h.os, h.tape, h.output, h.size, h.block⟩
theorem ref_no {R : Rf} {b : Bat} {n : Nat} {w w' : World} {L : Labs} {who g : Nat} (hn : R.refusal b = n) (h0 : n ≠ 0) (hB : Below w.heap.size w w') (hR : RefAt w' L who g R) : Ending.returned (.int .i64 (n : Int)) = Ending.returned (.int .i64 (R.refusal b)) ∧ TurnedR w L who g (R.submitted b) w' := by
  have e : R.submitted b = R := if_neg (by rw [hn]; exact h0)
  rw [e, hn]
  exact ⟨rfl, L, hR, Step.of_below hB⟩

set_option maxRecDepth 100000 in
set_option maxHeartbeats 4000000 in
theorem refSubmit_any (L : Labs) (who g : Nat) (R : Rf) (b : Bat) (w : World) (h : RefAt w L who g R) (hb : R.rs.length ≤ 120) (hn : R.ns.length ≤ 120) (hd0 : 0 ≤ R.c.d) :
    Calls Tryz.prog 48 #[.pointer (some ⟨g, 0, none⟩), batVal b] w fun e w' => e = .returned (.int .i64 (R.refusal b)) ∧ TurnedR w L who g (R.submitted b) w' := by
  have hB0 := fun o => (Below.refl w.heap.size w).alloc (Nat.le_refl _) o
  have HK : Hid (∀ w1, Below w.heap.size w w1 → RefAt w1 L who g R) := fun w1 h1 => h.keep (Step.of_below (p := fun _ => False) (L := L) h1) (fun _ h => h)
  obtain ⟨nv, qv, bv, dv, la, lk, h⟩ := h
  obtain ⟨ta, tc, rfl, _⟩ := h.tk.shape
  have c13 : w.cell? ⟨g, 13, none⟩ = some (.slice ta R.rs.length tc) := h.blk.1.cell 13
  have c15 : w.cell? ⟨g, 15, none⟩ = some (.slice la R.c.d.toNat lk) := h.blk.1.cell 15
  have c2 : w.cell? ⟨g, 2, none⟩ = some (.int .i64 R.c.q) := h.blk.1.cell 2
  have c4 : w.cell? ⟨g, 4, none⟩ = some (.int .i64 R.c.ba) := h.blk.1.cell 4
  have hgl := h.blk.1.lt
  have HH := hide h
  have hB00 := hide hB0
  have htn : ((R.c.d.toNat : Nat) : Int) = R.c.d := Int.toNat_of_nonneg hd0
  generalize hdn : R.c.d.toNat = dn at *
  unfold batVal
  clear h hB0
  go_enter Tryz.func48, Tryz.ntmps48
  go_wp2_with fail
  refine (refTenant_any L who g R b.ten _ (HK.out _ (hB00.out _)) hn).mono ?_
  rintro e w' ⟨rfl, rfl⟩
  generalize hft : findN R.ns b.ten = ft
  have Hft := hide hft
  clear hft
  go_wp2_with fail
  refine (refPlace_any L who g R b.id _ (HK.out _ (hB00.out _)) hb).mono ?_
  rintro e w' ⟨rfl, rfl⟩
  generalize hfi : findId R.bs b.id = fi
  have Hfi := hide hfi
  clear hfi
  go_wp2_with fail
  refine (refPending_any L who g R b.ten _ (HK.out _ (hB00.out _)) hb).mono ?_
  rintro e w' ⟨rfl, rfl⟩
  generalize hct : cntP R.bs b.ten = ct
  have Hct := hide hct
  clear hct
  have HU := hide (fun n (hn : R.refusal b = n) (h0 : n ≠ 0) nq => ref_no (w' := (w.alloc (.cells #[.int .i64 b.dst, encStr b.ten, encStr b.id, encStr b.body] 45)).drewN nq) (L := L) (who := who) (g := g) hn h0 (below_drewN (hB00.out _) nq) (HK.out _ (below_drewN (hB00.out _) nq)))
  by_cases h1 : b.dst < 0
  · go_wp2_with fail
    go_quiet (fail)
    go_wp2_with fail
    go_ret
    exact HU.out 3 (by unfold Rf.refusal; rw [if_pos (by omega)]) (by decide) _
  have h1d : decide (b.dst < 0) = false := by simpa using h1
  by_cases h2 : (dn : Int) ≤ b.dst
  · go_wp2_with fail
    go_quiet (fail)
    go_wp2_with fail
    go_ret
    exact HU.out 3 (by unfold Rf.refusal; rw [if_pos (by omega)]) (by decide) _
  have h2d : decide ((dn : Int) ≤ b.dst) = false := by simpa using h2
  have hdst : 0 ≤ b.dst ∧ b.dst < R.c.d := by omega
  have Hdst := hide hdst
  clear hdst
  go_wp2_with fail
  go_quiet (fail)
  by_cases h3 : ft < 0
  · go_wp2_with fail
    go_ret
    exact HU.out 4 (by unfold Rf.refusal; rw [Hft.out, Hfi.out, Hct.out]; have := Hdst.out; (repeat' split) <;> first | rfl | omega) (by decide) _
  by_cases h4 : (b.id.length : Int) < 1
  · go_wp2_with fail
    go_ret
    exact HU.out 5 (by unfold Rf.refusal; rw [Hft.out, Hfi.out, Hct.out]; have := Hdst.out; (repeat' split) <;> first | rfl | omega) (by decide) _
  by_cases h5 : (16 : Int) < (b.id.length : Int)
  · go_wp2_with fail
    go_ret
    exact HU.out 5 (by unfold Rf.refusal; rw [Hft.out, Hfi.out, Hct.out]; have := Hdst.out; (repeat' split) <;> first | rfl | omega) (by decide) _
  by_cases h6 : (63 : Int) < (b.body.length : Int)
  · go_wp2_with fail
    go_ret
    exact HU.out 6 (by unfold Rf.refusal; rw [Hft.out, Hfi.out, Hct.out]; have := Hdst.out; (repeat' split) <;> first | rfl | omega) (by decide) _
  by_cases h7 : 0 ≤ fi
  · go_wp2_with fail
    go_ret
    exact HU.out 7 (by unfold Rf.refusal; rw [Hft.out, Hfi.out, Hct.out]; have := Hdst.out; (repeat' split) <;> first | rfl | omega) (by decide) _
  by_cases h8 : (120 : Int) ≤ (R.rs.length : Int)
  · go_wp2_with fail
    go_ret
    exact HU.out 8 (by unfold Rf.refusal; rw [Hft.out, Hfi.out, Hct.out]; have := Hdst.out; (repeat' split) <;> first | rfl | omega) (by decide) _
  by_cases h9 : R.c.q ≤ (ct : Int)
  · go_wp2_with fail
    go_ret
    exact HU.out 9 (by unfold Rf.refusal; rw [Hft.out, Hfi.out, Hct.out]; have := Hdst.out; (repeat' split) <;> first | rfl | omega) (by decide) _
  have HE : Hid (R.refusal b = 0) := (by unfold Rf.refusal; rw [Hft.out, Hfi.out, Hct.out]; have := Hdst.out; (repeat' split) <;> first | rfl | omega)
  go_wp2_with fail
  generalize hV : World.drewN (World.alloc w _) _ = V
  have hBV : Below w.heap.size w V := by rw [← hV]; exact below_drewN (hB00.out _) _
  have hNV : Blk V w.heap.size #[.int .i64 b.dst, encStr b.ten, encStr b.id, encStr b.body] 45 := by rw [← hV]; exact (Blk.new w _ _).drewN _
  have hAV : RfAt V L who g R nv qv (.slice ta R.rs.length tc) dv la lk := HH.out.keep (Step.of_below (p := fun _ => False) hBV) (fun _ h => h)
  have d0 : V.cell? ⟨w.heap.size, 0, none⟩ = some (.int .i64 b.dst) := hNV.cell 0
  have d1 : V.cell? ⟨w.heap.size, 1, none⟩ = some (encStr b.ten) := hNV.cell 1
  have d2 : V.cell? ⟨w.heap.size, 2, none⟩ = some (encStr b.id) := hNV.cell 2
  have d3 : V.cell? ⟨w.heap.size, 3, none⟩ = some (encStr b.body) := hNV.cell 3
  have t13 : V.cell? ⟨g, 13, none⟩ = some (.slice ta R.rs.length tc) := hAV.blk.1.cell 13
  have t4 : V.cell? ⟨g, 4, none⟩ = some (.int .i64 R.c.ba) := hAV.blk.1.cell 4
  have HBV := hide hBV
  have HAV := hide hAV
  have hgc : g < V.heap.size := hAV.blk.1.lt
  have hnl : w.heap.size < V.heap.size := hNV.lt
  obtain ⟨i1, hi1, hy0, hy1, hy2⟩ := info_parts infoRefBatch3
  clear hV hBV hNV hAV c13 c15 c2 c4
  go_region_law (refine step_append_lies _ (by rfl) _ _ _ (by rfl) 0 112 i1 _ 8 88 Tryz.underlying103 hi1 hy0 hy1 hy2 rfl (by omega) (.slice ta R.rs.length tc) R.rs.length (R.rs.flatMap RBat.cells) (by rfl) ((HAV.out.tk.1.alloc _).drew) ⟨V.heap.size, 0, none⟩ 1 1 (RBat.cells ⟨b.fresh, R.c.ba, 0⟩) (by rfl) (by rfl) (World.news_of_block (cs := (RBat.cells ⟨b.fresh, R.c.ba, 0⟩).toArray) (t := 112) (fr := (0, 0)) (heap_alloc_new V _)) (by simp [Value.oneCell', RBat.cells, Bat.cells, encStr]) (by omega) (by unfold maxLen; omega) (by omega) (by omega) (V.heap.size + 1) (by simp) ?_; intro g2 cap2 w2 hown2 hg2 hat2 hlt2; have hBk := Blk.grown (w := World.drew (World.alloc V _)) (HAV.out.blk.1.alloc _) hg2 (fun e => by have := HAV.out.tk.2 g e.symm; rw [HAV.out.blk.2] at this; simp at this); have z0 := hBk.cell 13; have y0 := hBk.frozen 13; simp [refCells] at z0; have HU := hide (rtaken_step HAV.out hown2 hg2 hat2); clear hBk hown2 hg2 hat2)
  all_goals
    go_wp2_with fail
    go_ret
    obtain ⟨L2, hA2, hS2⟩ := HU.out
    have e : R.submitted b = R.taken b := if_pos HE.out
    rw [e, HE.out]
    exact ⟨rfl, L2, hA2, (Step.of_below HBV.out).trans hS2⟩
end Go.Proofs.YtojpjaifhjigfaaGreatDoor
