/- Steps of the proof (several texts in one): RefOver, RefNamed. -/
import Derived.Test.YtojpjaifhjigfaaGreatDoorMAllupto17
import Derived.Test.YtojpjaifhjigfaaGreatDoorMAllupto12
import Derived.BigRegion
import Derived.Test.YtojpjaifhjigfaaGreatDoorMAllupto14
import Derived.Deep.LoopGhost
import Derived.Deep.DeepCutAuto

/- over: the send to a destination of the document's is over. -/
namespace Go.Proofs.YtojpjaifhjigfaaGreatDoor
open Go.RowKit Go.Maps

/-- What the end of its send makes of a batch. -/
def RBat.overed (r : RBat) (c : Cfg) (time draw : Int) (good : Bool) : RBat :=
  if good then { r with b := { r.b with st := 2 } } else { b := { r.b with fl := r.b.fl + 1, st := if r.b.fl + 1 = c.at' then 3 else r.b.st }, pa := nextPause c r.pa draw, af := time + nextPause c r.pa draw }
/-- What it makes of an agent. -/
def Rf.overed (R : Rf) (d p : Nat) (o : Out) (r : RBat) (good : Bool) (draw : Int) : Rf :=
  { R with rs := R.rs.set p (r.overed R.c R.time draw good), dead := if good = false ∧ r.b.fl + 1 = R.c.at' then R.dead ++ [p] else R.dead, ls := R.ls.set d ({ o with way := -1 }.result R.c R.time good) }

/-- A store into a batch. -/
theorem RfAt.put {w : World} {L : Labs} {who g gt tc n p j : Nat} {R : Rf} {r r' : RBat} {nv qv dv v : Value} {la : Option Addr} {lk : Nat} (h : RfAt w L who g R nv qv (.slice (some ⟨gt, 0, none⟩) n tc) dv la lk) (hr : R.rs[p]? = some r) (hj : j < 8) (hc : r'.cells = r.cells.set j v) :
    RfAt (w.setCell ⟨gt, p * 8 + j, none⟩ v) L who g { R with rs := R.rs.set p r' } nv qv (.slice (some ⟨gt, 0, none⟩) n tc) dv la lk ∧ Step (ofP who) L w L (w.setCell ⟨gt, p * 8 + j, none⟩ v) := by
  have hn : n = R.rs.length := by
    obtain ⟨a, k, e, _⟩ := h.tk.shape
    simp at e
    exact e.2.1
  subst hn
  have hlab : L gt = some (who, .tk) := h.tk.2 gt (by simp [Value.ownBlock])
  have s : Step (fun l => l = some (who, .tk)) L w L (w.setCell ⟨gt, p * 8 + j, none⟩ v) := Step.setCell _ _ _ _ hlab
  have ht := h.tk.set (p * 8 + j) v
  rw [flat_set RBat.cells 8 RBat.cells_length R.rs p j r r' v hj hr hc] at ht
  refine ⟨⟨h.blk.keep s (by simp), h.nm.keep s (by simp), ?_, h.dd.keep s (by simp), h.qu.keep s (by simp), h.ll.keep s (by simp) (by simp), h.ln⟩, s.mono (fun l h => ⟨_, h⟩)⟩
  show RowAt _ L _ _ _ _ (R.rs.set p r').length ((R.rs.set p r').flatMap RBat.cells)
  rw [List.length_set]
  exact ht
/-- The cells of a batch. -/
theorem RfAt.bat {w : World} {L : Labs} {who g gt tc n p : Nat} {R : Rf} {r : RBat} {nv qv dv : Value} {la : Option Addr} {lk : Nat} (h : RfAt w L who g R nv qv (.slice (some ⟨gt, 0, none⟩) n tc) dv la lk) (hr : R.rs[p]? = some r) :
    n = R.rs.length ∧ gt < w.heap.size ∧ L gt = some (who, .tk) ∧ (∀ j v, r.cells[j]? = some v → w.cell? ⟨gt, p * 8 + j, none⟩ = some v) ∧ ∀ i, w.frozen? ⟨gt, i, none⟩ = false := by
  have hn : n = R.rs.length := by
    obtain ⟨a, k, e, _⟩ := h.tk.shape
    simp at e
    exact e.2.1
  subst hn
  have hp := (List.getElem?_eq_some_iff.1 hr).1
  obtain ⟨g', e, h1, h2, h3, h4⟩ := h.tk.head (by omega)
  obtain rfl : gt = g' := by simpa using e
  exact ⟨rfl, h1, h2, fun j v hv => h3 _ v (flat_cell RBat.cells 8 RBat.cells_length hr (List.getElem?_eq_some_iff.1 hv).1 hv), h4⟩
/-- A store into a destination. -/
theorem RfAt.lput {w : World} {L : Labs} {who g gl d j : Nat} {R : Rf} {o o' : Out} {nv qv bv dv v : Value} {lk : Nat} (h : RfAt w L who g R nv qv bv dv (some ⟨gl, 0, none⟩) lk) (ho : R.ls[d]? = some o) (hj : j < 9) (hcr : o'.cr = o.cr) (hc : ∀ cv, lineCells o' cv = (lineCells o cv).set j v) :
    RfAt (w.setCell ⟨gl, d * 9 + j, none⟩ v) L who g { R with ls := R.ls.set d o' } nv qv bv dv (some ⟨gl, 0, none⟩) lk ∧ Step (ofP who) L w L (w.setCell ⟨gl, d * 9 + j, none⟩ v) := by
  obtain ⟨gl', e, hF⟩ := h.focus ho
  obtain rfl : gl = gl' := by simpa using e
  obtain ⟨a, s⟩ := hF.put j v o' hj hcr hc
  refine ⟨h.outs s (fun q h => by simp [olP] at h; exact Or.inl h) ?_ (by simp), s.mono (fun l h => ⟨_, h⟩)⟩
  have := a.2
  rw [h.ln] at this
  exact this

theorem refCells_set14 (c : Cfg) (m : Option Nat) (nv qv bv dv dv' lv : Value) (t : Int) : (refCells c m nv qv bv dv lv t).setIfInBounds 14 dv' = refCells c m nv qv bv dv' lv t := by
  apply Array.ext'
  rw [Array.toList_setIfInBounds]
  rfl
theorem rdied_step {w1 w2 : World} {o : Obj} {L : Labs} {who g g2 cap2 p lk : Nat} {nv qv bv dv : Value} {la : Option Addr} {R : Rf} (hA : RfAt w1 L who g R nv qv bv dv la lk)
    (ho2 : w2.ownsRow 0 3 1 (.slice (some ⟨g2, 0, none⟩) (R.dead.length + 1) cap2) (R.dead.length + 1) (ints R.dead ++ [.int .i64 p])) (hg2 : (w1.alloc o).grownBy w2 dv.ownBlock) (hat2 : dv.ownBlock = some g2 ∨ g2 = w1.heap.size + 1) :
    ∃ L' dv', RfAt (w2.setCell ⟨g, 14, none⟩ (.slice (some ⟨g2, 0, none⟩) (R.dead.length + 1) cap2)) L' who g { R with dead := R.dead ++ [p] } nv qv bv dv' la lk ∧ Step (ofP who) L w1 L' (w2.setCell ⟨g, 14, none⟩ (.slice (some ⟨g2, 0, none⟩) (R.dead.length + 1) cap2)) := by
  have s1 : Step (fun l => l = some (who, .dd)) L w1 L (w1.alloc o) := Step.alloc L w1 o
  have s0 : Step (fun _ => False) L w1 L (w1.alloc o) := Step.alloc L w1 o
  have a2' := hA.dd.keep s0 (fun h => h)
  obtain ⟨hr2, hl2⟩ := a2'.appended ho2 (hat2.imp_right (fun e => by simp; omega))
  have s2 : Step (fun l => l = some (who, .dd)) L w1 (lay L g2 (some (who, .dd))) w2 := s1.trans (Step.of_grown hg2 (fun j hj => a2'.2 j hj) hl2)
  have b1 := hA.blk.keep s2 (by simp)
  have s3 : Step (fun l => l = some (who, .ag)) (lay L g2 (some (who, .dd))) w2 (lay L g2 (some (who, .dd))) (w2.setCell ⟨g, 14, none⟩ (.slice (some ⟨g2, 0, none⟩) (R.dead.length + 1) cap2)) := Step.setCell _ _ _ _ b1.2
  refine ⟨lay L g2 (some (who, .dd)), .slice (some ⟨g2, 0, none⟩) (R.dead.length + 1) cap2, ⟨?_, (hA.nm.keep s2 (by simp)).keep s3 (by simp), (hA.tk.keep s2 (by simp)).keep s3 (by simp), ?_, (hA.qu.keep s2 (by simp)).keep s3 (by simp), (hA.ll.keep s2 (by simp) (by simp)).keep s3 (by simp) (by simp), hA.ln⟩, (s2.mono (fun l h => ⟨_, h⟩)).trans (s3.mono (fun l h => ⟨_, h⟩))⟩
  · refine ⟨?_, b1.2⟩
    rw [← refCells_set14 R.c R.m nv qv bv dv]
    exact b1.1.set 14 _
  · have := hr2.keep s3 (by simp)
    simpa [ints] using this

/-- What over wants. -/
structure OverOk (R : Rf) (d p : Nat) (o : Out) (r : RBat) (draw : Int) : Prop where
  ho : R.ls[d]? = some o
  way : o.way = p
  hr : R.rs[p]? = some r
  f0 : 0 ≤ r.b.fl
  f1 : r.b.fl ≤ 1000
  r0 : 0 ≤ o.res
  r1 : o.res ≤ 63
  l0 : 0 ≤ o.fl
  l1 : o.fl ≤ o.res
  c : R.c.Ok
  p1 : R.c.ba ≤ r.pa
  p2 : r.pa ≤ R.c.ca
  dr : 0 ≤ draw
  n0 : 0 ≤ R.time
  n1 : R.time ≤ 1000000000000000000
  dl : R.dead.length ≤ 1000

/-- result, behind all the rest of over. -/
theorem over_result (L L1 : Labs) (who g d p gl : Nat) (R R1 : Rf) (o : Out) (r : RBat) (good : Bool) (draw : Int) (nv qv bv dv : Value) (lk : Nat) (w w1 : World) (h : RfAt w1 L1 who g R1 nv qv bv dv (some ⟨gl, 0, none⟩) lk) (s : Step (ofP who) L w L1 w1) (hk : OverOk R d p o r draw)
    (he : R1 = { R with rs := R.rs.set p (r.overed R.c R.time draw good), dead := if good = false ∧ r.b.fl + 1 = R.c.at' then R.dead ++ [p] else R.dead, ls := R.ls.set d { o with way := -1 } }) :
    Calls Tryz.prog 147 #[.pointer (some ⟨g, 0, none⟩), .int .i64 d, .bool good] w1 fun e w' => e = .returned (.tuple #[]) ∧ TurnedR w L who g (R.overed d p o r good draw) w' := by
  have hdl := (List.getElem?_eq_some_iff.1 hk.ho).1
  have ho1 : R1.ls[d]? = some { o with way := -1 } := by rw [he]; show (R.ls.set d _)[d]? = _; rw [List.getElem?_set_self hdl]
  have hln := h.ln
  have hc1 : R1.c = R.c := by rw [he]
  have ht1 : R1.time = R.time := by rw [he]
  have hls : R1.ls = R.ls.set d { o with way := -1 } := by rw [he]
  obtain ⟨gl', e, hF⟩ := h.focus ho1
  obtain rfl : gl = gl' := by simpa using e
  have hop := hk.c.op
  have b := h.blk.1
  refine (refResult_any L1 who g gl lk d R1.c.d.toNat R1.ls { o with way := -1 } good R1.c R1.time w1 hF (b.cell 15) (by rw [← hln, hls]; simpa using hdl) h.blk.2 (b.cell 16) (b.cell 10) (b.cell 9) (b.cell 8) (b.cell 7) hk.r0 hk.r1 hk.l0 hk.l1 (by rw [ht1]; exact hk.n0) (by rw [ht1]; exact hk.n1) (by rw [hc1]; omega) (by rw [hc1]; exact hop.2)).mono ?_
  rintro e w' ⟨rfl, hF2, hS2⟩
  have hL2 := hF2.2
  rw [hln] at hL2
  have := h.outs hS2 (fun q h => by simp [olP] at h; exact Or.inl h) hL2 (by simp)
  refine ⟨rfl, L1, ⟨nv, qv, bv, dv, some ⟨gl, 0, none⟩, lk, ?_⟩, s.trans (hS2.mono (fun l h => ⟨_, h⟩))⟩
  have e2 : { R1 with ls := R1.ls.set d ({ o with way := -1 }.result R1.c R1.time good) } = R.overed d p o r good draw := by
    rw [he]
    unfold Rf.overed
    simp only [List.set_set]
  rw [← e2]
  exact this
end Go.Proofs.YtojpjaifhjigfaaGreatDoor

/- named: the batch that goes next to a destination of the document's. -/
namespace Go.Proofs.YtojpjaifhjigfaaGreatDoor
open Go.RowKit Go.Maps

/-- The size of what may go of a lane: 0, if nothing may. -/
def Rf.sz (R : Rf) (d : Nat) (x : List UInt8) : Nat := if R.hd d x < 0 then 0 else (R.bs[(R.hd d x).toNat]?.map (·.body.length)).getD 0 + 1
def Rf.sizes (R : Rf) (d : Nat) : List Nat := R.ns.map (R.sz d)
/-- What is named, and what the agent is then. -/
def Rf.namedAt (R : Rf) (d : Nat) (o : Out) : Int × Rf := if (R.sizes d).all (· == 0) then (-1, R) else (R.hd d (R.ns.getD (o.picked (R.sizes d) R.qs).turn []), { R with ls := R.ls.set d (o.picked (R.sizes d) R.qs) })

/-- What named wants. -/
structure NamedOk (R : Rf) (d : Nat) (o : Out) : Prop where
  ho : R.ls[d]? = some o
  rot : Rot R.ns.length (o.turn, o.cr)
  nl : R.ns.length ≤ 8
  rl : R.rs.length ≤ 120
  bl : ∀ b ∈ R.bs, b.body.length ≤ 63
  ql : R.qs.length = R.ns.length
  q : ∀ i, i < R.ns.length → 64 ≤ R.qs.getD i 0 ∧ R.qs.getD i 0 ≤ 1000

theorem Rf.sz_le {R : Rf} (h : ∀ b ∈ R.bs, b.body.length ≤ 63) (d : Nat) (x : List UInt8) : R.sz d x ≤ 64 := by
  unfold Rf.sz
  split
  · omega
  · cases hb : R.bs[(R.hd d x).toNat]? with
    | none => simp
    | some b => have := h b (List.mem_of_getElem? hb); simp; omega
theorem Rf.sizes_le {R : Rf} (h : ∀ b ∈ R.bs, b.body.length ≤ 63) (d i : Nat) : (R.sizes d).getD i 0 ≤ 64 := by
  unfold Rf.sizes
  rw [List.getD_eq_getElem?_getD, List.getElem?_map]
  cases R.ns[i]? with
  | none => simp
  | some x => exact Rf.sz_le h d x
theorem pend_get {bs : List Bat} {d : Int} {x : List UInt8} {p : Nat} (h : p ∈ pend bs d x) : ∃ b, bs[p]? = some b := by
  unfold pend at h
  obtain ⟨⟨b, q⟩, h1, rfl⟩ := List.mem_map.1 h
  have h2 := (List.mem_filter.1 h1).1
  exact ⟨b, List.mem_zipIdx_iff_getElem?.1 h2⟩
/-- A head that is one is a batch. -/
theorem Rf.hd_get {R : Rf} {d : Int} {x : List UInt8} (h : ¬ R.hd d x < 0) : ∃ (p : Nat) (r : RBat), R.hd d x = p ∧ R.rs[p]? = some r := by
  unfold Rf.hd at h ⊢
  cases e : pend R.bs d x with
  | nil => rw [e] at h; simp at h
  | cons p ps =>
    rw [e] at h
    simp only at h ⊢
    obtain ⟨b, hb⟩ := pend_get (bs := R.bs) (d := d) (x := x) (p := p) (by rw [e]; simp)
    by_cases ht : R.time < (R.rs[p]?.map (·.af)).getD 0
    · rw [if_pos ht] at h; omega
    · rw [if_neg ht]
      simp only [Rf.bs, List.getElem?_map, Option.map_eq_some_iff] at hb
      obtain ⟨r, hr, _⟩ := hb
      exact ⟨p, r, rfl, hr⟩
theorem Rf.sizes_take {R : Rf} {d k : Nat} {x : List UInt8} (hx : R.ns[k]? = some x) : (!((R.sizes d).take (k + 1)).all (· == 0)) = (!((R.sizes d).take k).all (· == 0) || decide (0 ≤ R.hd d x)) := by
  have hk := (List.getElem?_eq_some_iff.1 hx).1
  have hs : (R.sizes d)[k]? = some (R.sz d x) := by simp [Rf.sizes, hx]
  have hl := (List.getElem?_eq_some_iff.1 hs).1
  have he : (R.sizes d)[k] = R.sz d x := (List.getElem?_eq_some_iff.1 hs).2
  rw [List.take_succ_eq_append_getElem hl, List.all_append, he]
  have e : (R.sz d x == 0) = !decide (0 ≤ R.hd d x) := by
    unfold Rf.sz
    by_cases h : R.hd d x < 0
    · rw [if_pos h]; simp; omega
    · rw [if_neg h]; simp; omega
  simp only [List.all_cons, List.all_nil, Bool.and_true]
  rw [e]
  cases ((R.sizes d).take k).all (· == 0) <;> cases decide (0 ≤ R.hd d x) <;> rfl

/-- A store into a destination's credits. -/
theorem RfAt.lcredit {w : World} {L : Labs} {who g gl d gc ck : Nat} {R : Rf} {o : Out} {nv qv bv dv : Value} {lk : Nat} (h : RfAt w L who g R nv qv bv dv (some ⟨gl, 0, none⟩) lk) {ls : List Out} (hF : LineF w L who gl lk R.ls d o) (hC : LineCells w L who gl d o (some ⟨gc, 0, none⟩) ck) (t : Nat) (v : Int) (he : R.ls = ls.set d o := by rfl) :
    RfAt (w.setCell ⟨gc, t, none⟩ (.int .i64 v)) L who g { R with ls := ls.set d { o with cr := o.cr.set t v } } nv qv bv dv (some ⟨gl, 0, none⟩) lk ∧ Step (ofP who) L w L (w.setCell ⟨gc, t, none⟩ (.int .i64 v)) := by
  obtain ⟨a, s⟩ := hF.credit hC t v
  refine ⟨h.outs s (fun q h => by simp at h; exact Or.inr ⟨_, h⟩) ?_ (by rw [he]; simp), s.mono (fun l h => ⟨_, h⟩)⟩
  have := a.2
  rw [h.ln, he, List.set_set] at this
  exact this

set_option maxRecDepth 100000 in
set_option maxHeartbeats 8000000 in
theorem refNamed_any (L : Labs) (who g d : Nat) (R : Rf) (o : Out) (w : World) (h : RefAt w L who g R) (hk : NamedOk R d o) :
    Calls Tryz.prog 123 #[.pointer (some ⟨g, 0, none⟩), .int .i64 d] w fun e w' => e = .returned (.int .i64 (R.namedAt d o).1) ∧ RefAt w' L who g (R.namedAt d o).2 ∧ Step (ofP who) L w L w' := by
  obtain ⟨nv, qv, bv, dv, la, lk, h⟩ := h
  obtain ⟨gl, rfl, hF⟩ := h.focus hk.ho
  obtain ⟨na, nk, rfl, _⟩ := h.nm.shape
  obtain ⟨ta, tc, rfl, _⟩ := h.tk.shape
  obtain ⟨qa, qk, rfl, _⟩ := h.qu.shape
  have hdl := (List.getElem?_eq_some_iff.1 hk.ho).1
  have hgl := h.blk.1.lt
  have ht0 : o.turn < R.ns.length := hk.rot.turn
  obtain ⟨gn, rfl, hgn, hlabn, hcn, _⟩ := h.nm.head (by omega)
  obtain ⟨gq, rfl, hgq, hlabq, hcq, _⟩ := h.qu.head (by rw [hk.ql]; omega)
  rw [hk.ql] at *
  have HCN : Hid (∀ i x, R.ns[i]? = some x → w.cell? ⟨gn, i, none⟩ = some (encStr x)) := fun i x hx => hcn _ _ (strs_get hx)
  have C11 : Hid (w.cell? ⟨g, 11, none⟩ = some (.slice (some ⟨gn, 0, none⟩) R.ns.length nk)) := h.blk.1.cell 11
  have HA := hide h
  have Hk := hide hk
  have hn8 := hk.nl
  have hn1 : 1 ≤ R.ns.length := by omega
  have hdI : (d : Int) < (R.c.d.toNat : Int) := by have := h.ln; omega
  have HHead : Hid (∀ x w1 R1, Rf.rs R1 = R.rs → Rf.time R1 = R.time → RefAt w1 L who g R1 → Calls Tryz.prog 148 #[.pointer (some ⟨g, 0, none⟩), .int .i64 d, encStr x] w1 fun e w' => e = .returned (.int .i64 (R.hd d x)) ∧ Below w1.heap.size w1 w') := fun x w1 R1 e1 e2 h1 => by
    have := refHead_any L who g R1 d x w1 h1 (by rw [e1]; exact Hk.out.rl)
    have e : R1.hd d x = R.hd d x := by simp only [Rf.hd, Rf.bs, e1, e2]
    rw [e] at this
    exact this
  generalize hn : R.ns.length = n at *
  have Hn := hide hn
  clear h hF hk hcn hcq hn
  go_enter Tryz.func123, Tryz.ntmps123
  go_wp2_with fail
  go_loopw [5, 6, 7] (fun a i q wr => ∃ k : Nat, k ≤ n ∧ a = .bool (!((R.sizes d).take k).all (· == 0)) ∧ i = .int .i64 k ∧ Below w.heap.size w wr) (fun _ i _ _ => n - (intOf i).toNat)
  case atStart => exact ⟨0, Nat.zero_le _, by simp, rfl, Below.refl _ _⟩
  case round =>
    obtain ⟨k, hk, rfl, rfl, hnx⟩ := hrel
    have Hnx := hide hnx
    have d11 : wr.cell? ⟨g, 11, none⟩ = some (.slice (some ⟨gn, 0, none⟩) n nk) := (hnx.cell (p := ⟨g, 11, none⟩) hgl).trans C11.out
    have hgw : g < wr.heap.size := Nat.lt_of_lt_of_le hgl hnx.size
    have HAw := hide (HA.out.keep (Step.of_below (p := fun _ => False) (L := L) hnx) (fun _ h => h))
    by_cases hlt : k < n
    · have hltI : (k : Int) < (n : Int) := by omega
      obtain ⟨x, hx⟩ : ∃ x, R.ns[k]? = some x := ⟨_, List.getElem?_eq_getElem (by rw [Hn.out]; exact hlt)⟩
      have ex : wr.cell? ⟨gn, k, none⟩ = some (encStr x) := (hnx.cell (p := ⟨gn, k, none⟩) hgn).trans (HCN.out k x hx)
      have Hst := hide (Rf.sizes_take (R := R) (d := d) hx)
      generalize hab : (!((R.sizes d).take k).all (· == 0)) = ab at *
      have Hab := hide hab
      clear hx hnx hab
      go_wp2_with fail
      refine (HHead.out x wr R rfl rfl ⟨_, _, _, _, _, _, HAw.out⟩).mono ?_
      rintro e w1 ⟨rfl, hb1⟩
      have HB1 : Hid (Below w.heap.size w w1) := Hnx.out.trans (hb1.mono Hnx.out.size)
      clear hb1
      generalize hhd : R.hd d x = hd at *
      cases hab2 : ab
      · by_cases h0 : 0 ≤ hd
        · have h0d : decide (0 ≤ hd) = true := by simpa using h0
          have Hst2 : Hid ((!((R.sizes d).take (k + 1)).all (· == 0)) = true) := by show _ = _; rw [Hst.out, h0d]; simp
          clear h0d
          go_wp2_with fail
          go_roundw
          case rel => exact ⟨k + 1, by omega, by first | (rw [Hst2.out]; done) | (rw [Hst2.out]; simp; omega), by go_num, HB1.out⟩
          case measure => simp [intOf]; omega
        · have h0d : decide (0 ≤ hd) = false := by simpa using h0
          have Hst2 : Hid ((!((R.sizes d).take (k + 1)).all (· == 0)) = false) := by show _ = _; rw [Hst.out, h0d, hab2]; simp
          clear h0d
          go_wp2_with fail
          go_roundw
          case rel => exact ⟨k + 1, by omega, by first | (rw [Hst2.out]; done) | (rw [Hst2.out]; simp; omega), by go_num, HB1.out⟩
          case measure => simp [intOf]; omega
      · have Hst2 : Hid ((!((R.sizes d).take (k + 1)).all (· == 0)) = true) := by show _ = _; rw [Hst.out, hab2]; simp
        go_wp2_with fail
        go_roundw
        case rel => exact ⟨k + 1, by omega, by first | (rw [Hst2.out]; done) | (rw [Hst2.out]; simp; omega), by go_num, HB1.out⟩
        case measure => simp [intOf]; omega
    · have hkn : n = k := by omega
      subst hkn
      have hall : ((R.sizes d).take n) = R.sizes d := List.take_of_length_le (by simp [Rf.sizes, Hn.out])
      rw [hall]
      have d15 : wr.cell? ⟨g, 15, none⟩ = some (.slice (some ⟨gl, 0, none⟩) R.c.d.toNat lk) := HAw.out.blk.1.cell 15
      obtain ⟨gl', e', hFw⟩ := HAw.out.focus Hk.out.ho
      obtain rfl : gl = gl' := by simpa using e'
      clear hall e'
      cases hal : (R.sizes d).all (· == 0)
      · have Hal := hide hal
        obtain ⟨fin, hfin⟩ : ∃ fin, fin = turnsR (R.sizes d) R.qs n (o.turn, o.cr) := ⟨_, rfl⟩
        have hcl0 : o.cr.length = n := Hk.out.rot.len.trans Hn.out
        have HFound : Hid (allowsR (R.sizes d) fin.1 fin.2 = true) := by
          obtain ⟨x, hx, hx0⟩ : ∃ x ∈ R.sizes d, (x == 0) = false := by
            have := List.all_eq_false.1 hal
            obtain ⟨x, hx, hx0⟩ := this
            exact ⟨x, hx, by simpa using hx0⟩
          obtain ⟨i, hi, rfl⟩ := List.getElem_of_mem hx
          rw [hfin]
          refine turnsR_found (Rf.sizes_le Hk.out.bl d) (n := n) (fun i hi => Hk.out.q i (by rw [Hn.out]; exact hi)) (Hn.out ▸ Hk.out.rot) (i := i) (by simpa [Rf.sizes, Hn.out] using hi) ?_
          rw [List.getD_eq_getElem?_getD, List.getElem?_eq_getElem hi]
          simp at hx0 ⊢
          omega
        have HEnd : Hid (R.namedAt d o = (R.hd d (R.ns.getD fin.1 []), { R with ls := R.ls.set d { o with turn := fin.1, cr := fin.2.set fin.1 (fin.2.getD fin.1 0 - (R.sizes d).getD fin.1 0) } })) := by
          show _ = _
          unfold Rf.namedAt
          rw [hal, hfin]
          simp only [Out.picked, hcl0]
          rfl
        have HS0 : Hid (Step (ofP who) L w L wr) := Step.of_below Hnx.out
        have HAt : Hid (∃ t cr, Rot n (t, cr) ∧ turnsR (R.sizes d) R.qs n (t, cr) = fin ∧ RfAt wr L who g { R with ls := R.ls.set d { o with turn := t, cr := cr } } (.slice (some ⟨gn, 0, none⟩) n nk) (.slice (some ⟨gq, 0, none⟩) n qk) (.slice ta R.rs.length tc) dv (some ⟨gl, 0, none⟩) lk ∧ Step (ofP who) L w L wr) := by
          refine ⟨o.turn, o.cr, Hn.out ▸ Hk.out.rot, hfin.symm, ?_, HS0.out⟩
          rw [show R.ls.set d { o with turn := o.turn, cr := o.cr } = R.ls from set_self _ _ _ Hk.out.ho]
          exact HAw.out
        clear hal hfin hnx hFw HAw
        go_wp2_with fail
        go_loopg [9, 10, 11] n (fun m s9 s10 s11 wr => ∃ t cr, Rot n (t, cr) ∧ turnsR (R.sizes d) R.qs m (t, cr) = fin ∧ RfAt wr L who g { R with ls := R.ls.set d { o with turn := t, cr := cr } } (.slice (some ⟨gn, 0, none⟩) n nk) (.slice (some ⟨gq, 0, none⟩) n qk) (.slice ta R.rs.length tc) dv (some ⟨gl, 0, none⟩) lk ∧ Step (ofP who) L w L wr)
        case atStart => exact HAt.out
        case round =>
          obtain ⟨t, cr, hR, hT, hF, hSt⟩ := hrel
          have HR := hide hR
          have HT := hide hT
          have HF := hide hF
          have HSt := hide hSt
          have ht : t < n := hR.turn
          have htI : (t : Int) < (n : Int) := by omega
          have Hcl : Hid (cr.length = n) := hR.len
          obtain ⟨t', ht'0⟩ : ∃ t', t' = (t + 1) % n := ⟨_, rfl⟩
          have ht' : t' < n := by rw [ht'0]; exact Nat.mod_lt _ (by omega)
          have Ht' := hide ht'0
          have hcp : 0 ≤ cr.getD t 0 := hR.pos t ht
          have hct : cr.getD t 0 ≤ 1063 := hR.top
          have HPos := hide hR.pos
          have HLow := hide hR.low
          obtain ⟨x, hx⟩ : ∃ x, R.ns[t]? = some x := ⟨_, List.getElem?_eq_getElem (by rw [Hn.out]; exact ht)⟩
          have hsz : (R.sizes d).getD t 0 = R.sz d x := by simp [Rf.sizes, List.getD_eq_getElem?_getD, hx]
          have Hsz := hide hsz
          have Hx := hide hx
          have a11 : wr.cell? ⟨g, 11, none⟩ = some (.slice (some ⟨gn, 0, none⟩) n nk) := hF.blk.1.cell 11
          have ax : wr.cell? ⟨gn, t, none⟩ = some (encStr x) := by
            have hnm := hF.nm
            rw [show R.ns.length = n from Hn.out] at hnm
            obtain ⟨gn2, e4, _, _, h4, _⟩ := hnm.head (by omega)
            obtain rfl : gn = gn2 := by simpa using e4
            exact h4 t _ (strs_get hx)
          obtain ⟨gl1, e1, hL1⟩ := hF.focus (d := d) (o := { o with turn := t, cr := cr }) (by show (R.ls.set d { o with turn := t, cr := cr })[d]? = _; rw [List.getElem?_set_self hdl])
          obtain rfl : gl = gl1 := by simpa using e1
          have a4 : wr.cell? ⟨gl, d * 9 + 4, none⟩ = some (.int .i64 (t : Nat)) := by obtain ⟨_, _, q⟩ := hL1.cells; exact q.c4
          clear hR hT hF hSt hx hsz ht'0 e1 hL1
          go_wp2_with fail
          refine (HHead.out x wr { R with ls := R.ls.set d { o with turn := t, cr := cr } } rfl rfl ⟨_, _, _, _, _, _, HF.out⟩).mono ?_
          rintro e W ⟨rfl, hbW⟩
          have hFW := HF.out.keep (Step.of_below (p := fun _ => False) (L := L) hbW) (fun _ h => h)
          have HSW : Hid (Step (ofP who) L w L W) := HSt.out.trans (Step.of_below hbW)
          obtain ⟨gl1, e1, hL1⟩ := hFW.focus (d := d) (o := { o with turn := t, cr := cr }) (by show (R.ls.set d { o with turn := t, cr := cr })[d]? = _; rw [List.getElem?_set_self hdl])
          obtain rfl : gl = gl1 := by simpa using e1
          obtain ⟨gc, ck, hC, hne, hgc, hcell, hfz⟩ := hL1.full (by show 0 < cr.length; rw [Hcl.out]; omega)
          have b5 : W.cell? ⟨gl, d * 9 + 5, none⟩ = some (.slice (some ⟨gc, 0, none⟩) n ck) := by have : _ = some (Value.slice _ cr.length _) := hC.c5; rw [Hcl.out] at this; exact this
          have bc : W.cell? ⟨gc, t, none⟩ = some (.int .i64 (cr.getD t 0)) := hcell t (by show t < cr.length; rw [Hcl.out]; exact ht)
          have bz := hfz t
          have bl0 := hC.lt
          have HFW := hide hFW
          have HCr := hide (fun v => hFW.lcredit hL1 hC t v)
          clear hbW hFW hL1 hC hcell hfz e1 a11 ax a4
          by_cases hneg : R.hd d x < 0
          · have hz : (R.sizes d).getD t 0 = 0 := by rw [Hsz.out, Rf.sz, if_pos hneg]
            have HNo : Hid (allowsR (R.sizes d) t cr = false) := by show _ = _; unfold allowsR; rw [hz]; rfl
            have Hz := hide hz
            obtain ⟨cr1, hcr1⟩ : ∃ cr1, cr1 = cr.set t 0 := ⟨_, rfl⟩
            have HCr1 : Hid ((if (R.sizes d).getD t 0 = 0 then cr.set t 0 else cr) = cr1) := by show _ = _; rw [if_pos hz, hcr1]
            have Hcr1 : Hid (cr1.length = n) := by show _ = _; rw [hcr1, List.length_set]; exact Hcl.out
            have Hcrb : Hid (0 ≤ cr1.getD t' 0 ∧ cr1.getD t' 0 ≤ 1063) := by
              show _ ∧ _
              rw [hcr1, getD_set (by rw [Hcl.out]; exact ht)]
              by_cases e : t = t'
              · rw [if_pos e]; omega
              · rw [if_neg e]; exact ⟨HPos.out t' ht', by have := HLow.out t' ht' (fun q => e q.symm); omega⟩
            obtain ⟨hF2, hS2⟩ := HCr.out 0
            generalize hhd : R.hd d x = hd at *
            clear hz
            go_upto_region 17 with fail
            generalize hW2 : World.setCell _ _ _ = W2
            have HF2 : Hid (RfAt W2 L who g { R with ls := R.ls.set d { o with turn := t, cr := cr1 } } (.slice (some ⟨gn, 0, none⟩) n nk) (.slice (some ⟨gq, 0, none⟩) n qk) (.slice ta R.rs.length tc) dv (some ⟨gl, 0, none⟩) lk) := by
              rw [hW2] at hF2
              rw [hcr1]
              exact hF2
            have HS2 : Hid (Step (ofP who) L w L W2) := by rw [hW2] at hS2; exact HSW.out.trans hS2
            clear hF2 hS2 hW2 hcr1 b5 bc bz bl0 hne hgc
            have hcr1 := Hcr1.out
            have b11 : W2.cell? ⟨g, 11, none⟩ = some (.slice (some ⟨gn, 0, none⟩) n nk) := HF2.out.blk.1.cell 11
            obtain ⟨gl2, e2, hL2⟩ := HF2.out.focus (d := d) (o := { o with turn := t, cr := cr1 }) (by show (R.ls.set d { o with turn := t, cr := cr1 })[d]? = _; rw [List.getElem?_set_self hdl])
            obtain rfl : gl = gl2 := by simpa using e2
            obtain ⟨ca2, ck2, hC2⟩ := hL2.cells
            have b4 : W2.cell? ⟨gl, d * 9 + 4, none⟩ = some (.int .i64 (t : Nat)) := hC2.c4
            have b5 : W2.cell? ⟨gl, d * 9 + 5, none⟩ = some (.slice ca2 n ck2) := by have : _ = some (Value.slice _ cr1.length _) := hC2.c5; rw [hcr1] at this; exact this
            have bf := hC2.fz
            have bl := hC2.lt
            have HU20 := hide (HF2.out.lput (o' := { o with turn := t', cr := cr1 }) (v := .int .i64 (t' : Nat)) (d := d) (o := { o with turn := t, cr := cr1 }) (j := 4) (by show (R.ls.set d { o with turn := t, cr := cr1 })[d]? = _; rw [List.getElem?_set_self hdl]) (by omega) rfl (fun _ => rfl))
            have hgw2 := HF2.out.blk.1.lt
            clear hL2 hC2 e2 hcr1
            go_upto_if 109 with fail
            go_cut [9] (fun s9 wx => s9 = .int .i64 (t' : Nat) ∧ wx = W2)
            case first =>
              by_cases hw : (t : Int) + 1 = (n : Int)
              · have hw' : t' = 0 := by rw [Ht'.out, show t + 1 = n by omega, Nat.mod_self]
                go_wp2_with fail
                go_meet
                exact ⟨by rw [hw']; rfl, rfl⟩
              · have hw' : t' = t + 1 := by rw [Ht'.out, Nat.mod_eq_of_lt (by omega)]
                go_wp2_with fail
                go_meet
                exact ⟨by rw [hw']; rfl, rfl⟩
            case rest =>
            obtain ⟨rfl, rfl⟩ := hcut
            go_upto_region 21 with fail
            generalize hW3 : World.setCell _ _ _ = W3
            have hU20 : RfAt W3 L who g { R with ls := R.ls.set d { o with turn := t', cr := cr1 } } (.slice (some ⟨gn, 0, none⟩) n nk) (.slice (some ⟨gq, 0, none⟩) n qk) (.slice ta R.rs.length tc) dv (some ⟨gl, 0, none⟩) lk := by
              have := HU20.out.1
              rw [hW3] at this
              simpa only [List.set_set] using this
            have hS20 := HU20.out.2
            rw [hW3] at hS20
            obtain ⟨gl3, e3, hL3⟩ := hU20.focus (d := d) (o := { o with turn := t', cr := cr1 }) (by show (R.ls.set d { o with turn := t', cr := cr1 })[d]? = _; rw [List.getElem?_set_self hdl])
            obtain rfl : gl = gl3 := by simpa using e3
            obtain ⟨gc3, ck3, hC3, hne3, hgc3, hcell3, hfz3⟩ := hL3.full (by show 0 < cr1.length; rw [Hcr1.out]; omega)
            have k5 : W3.cell? ⟨gl, d * 9 + 5, none⟩ = some (.slice (some ⟨gc3, 0, none⟩) n ck3) := by have : _ = some (Value.slice _ cr1.length _) := hC3.c5; rw [Hcr1.out] at this; exact this
            have k12 : W3.cell? ⟨g, 12, none⟩ = some (.slice (some ⟨gq, 0, none⟩) n qk) := hU20.blk.1.cell 12
            have kc : W3.cell? ⟨gc3, t', none⟩ = some (.int .i64 (cr1.getD t' 0)) := hcell3 t' (by show t' < cr1.length; rw [Hcr1.out]; exact ht')
            have kf := hfz3 t'
            have kq : W3.cell? ⟨gq, t', none⟩ = some (.int .i64 (R.qs.getD t' 0)) := by
              have hqu := hU20.qu
              rw [show R.qs.length = n from Hk.out.ql.trans Hn.out] at hqu
              obtain ⟨gq3, e4, _, _, h4, _⟩ := hqu.head (by omega)
              obtain rfl : gq = gq3 := by simpa using e4
              refine h4 t' _ ?_
              have hlt' : t' < R.qs.length := by rw [Hk.out.ql, Hn.out]; exact ht'
              simp [intsI, List.getD_eq_getElem?_getD, hlt']
            have HU21 := hide (hU20.lcredit hL3 hC3 t' (cr1.getD t' 0 + R.qs.getD t' 0))
            have HS3 : Hid (Step (ofP who) L w L W3) := HS2.out.trans hS20
            have hgw3 := hU20.blk.1.lt
            have hgl3 := hL3.cells
            have hgl3' : gl < W3.heap.size := by obtain ⟨_, _, q⟩ := hgl3; exact q.lt
            have hqb := Hk.out.q t' (by rw [Hn.out]; exact ht')
            have hcb := Hcrb.out
            have ht'I : (t' : Int) < (n : Int) := by omega
            have HPass : Hid (passR (R.sizes d) R.qs (t, cr) = (t', cr1.set t' (cr1.getD t' 0 + R.qs.getD t' 0))) := by
              show _ = _
              unfold passR
              simp only [HCr1.out, Hcl.out, ← Ht'.out]
            clear hW3 hU20 hS20 hL3 hC3 hcell3 hfz3 hgl3 e3 b11 b4 b5 bf bl
            generalize hx1 : cr1.getD t' 0 = x1 at *
            generalize hx2 : R.qs.getD t' 0 = x2 at *
            have hgk : 0 < gk := by
              rcases Nat.eq_zero_or_pos gk with e | e
              · exfalso
                subst e
                have e1 := HT.out
                simp only [turnsR] at e1
                have := HFound.out
                rw [← e1] at this
                have h2 := HNo.out
                simp only at this
                rw [this] at h2
                cases h2
              · exact e
            go_region
            all_goals
              go_wp2_with fail
              go_roundg (gk - 1)
              case measure => omega
              case rel =>
                have hp := (HR.out.pass (Rf.sizes_le Hk.out.bl d) (fun i hi => Hk.out.q i (by rw [Hn.out]; exact hi)) HNo.out).1
                rw [HPass.out] at hp
                refine ⟨t', cr1.set t' (x1 + x2), hp, ?_, HU21.out.1.keep (Step.drew (p := fun _ => False) L _) (fun _ h => h), (HS3.out.trans HU21.out.2).trans (Step.drew L _)⟩
                have e1 := HT.out
                rw [show gk = gk - 1 + 1 by omega] at e1
                unfold turnsR at e1
                rw [HNo.out, HPass.out] at e1
                simpa using e1
          · obtain ⟨p, r, hp, hr⟩ := Rf.hd_get hneg
            have hpl := (List.getElem?_eq_some_iff.1 hr).1
            have hz : (R.sizes d).getD t 0 = r.b.body.length + 1 := by rw [Hsz.out, Rf.sz, if_neg hneg, hp]; simp [Rf.get hr]
            have hbd : r.b.body.length ≤ 63 := Hk.out.bl _ (List.mem_of_getElem? (Rf.get hr))
            have hpI : (p : Int) < (R.rs.length : Int) := by omega
            obtain ⟨gt, rfl⟩ : ∃ gt, ta = some ⟨gt, 0, none⟩ := by obtain ⟨gt, e, _⟩ := HFW.out.tk.head (by show 0 < R.rs.length; omega); exact ⟨gt, e⟩
            obtain ⟨_, _, _, hct2, _⟩ := HFW.out.bat hr
            have b13 : W.cell? ⟨g, 13, none⟩ = some (.slice (some ⟨gt, 0, none⟩) R.rs.length tc) := HFW.out.blk.1.cell 13
            have bb : W.cell? ⟨gt, p * 8 + 3, none⟩ = some (encStr r.b.body) := hct2 3 _ rfl
            have Hp := hide hp
            have Hr := hide hr
            have Hz := hide hz
            have hp0 : ¬ ((p : Int) < 0) := by omega
            rw [hp]
            clear hct2 hp hr hneg
            by_cases hal : ((r.b.body.length : Int) + 1) ≤ cr.getD t 0
            · have HYes : Hid (allowsR (R.sizes d) t cr = true) := by show _ = _; unfold allowsR; rw [hz, Bool.and_eq_true, decide_eq_true_eq, decide_eq_true_eq]; exact ⟨by omega, by omega⟩
              have HEx : Hid (R.namedAt d o = ((p : Int), { R with ls := R.ls.set d { o with turn := t, cr := cr.set t (cr.getD t 0 - ((r.b.body.length : Int) + 1)) } })) := by
                have hfe : fin = (t, cr) := by rw [← HT.out, turnsR_allows (s := (t, cr)) HYes.out]
                show _ = _
                rw [HEnd.out, hfe]
                simp only [hz]
                rw [show R.ns.getD t [] = x by simp [List.getD_eq_getElem?_getD, Hx.out], Hp.out]
                simp
              obtain ⟨hF2, hS2⟩ := HCr.out (cr.getD t 0 - ((r.b.body.length : Int) + 1))
              have HF2 := hide hF2
              have HS2 := hide hS2
              generalize hxx : cr.getD t 0 = xx at *
              clear hF2 hS2 hz
              go_wp2_with fail
              go_region
              all_goals
                go_wp2_with fail
                go_ret
                rw [HEx.out]
                exact ⟨rfl, ⟨_, _, _, _, _, _, HF2.out.keep (Step.drew (p := fun _ => False) L _) (fun _ h => h)⟩, (HSW.out.trans HS2.out).trans (Step.drew L _)⟩
            · have HNo : Hid (allowsR (R.sizes d) t cr = false) := by show _ = _; unfold allowsR; rw [hz, Bool.and_eq_false_iff, decide_eq_false_iff_not, decide_eq_false_iff_not]; exact Or.inr (by omega)
              obtain ⟨cr1, hcr1⟩ : ∃ cr1, cr1 = cr := ⟨_, rfl⟩
              have HCr1 : Hid ((if (R.sizes d).getD t 0 = 0 then cr.set t 0 else cr) = cr1) := by show _ = _; rw [if_neg (by omega), hcr1]
              have Hcr1 : Hid (cr1.length = n) := by show _ = _; rw [hcr1]; exact Hcl.out
              have Hcrb : Hid (0 ≤ cr1.getD t' 0 ∧ cr1.getD t' 0 ≤ 1063) := by
                show _ ∧ _
                rw [hcr1]
                by_cases e : t' = t
                · rw [e]; omega
                · exact ⟨HPos.out t' ht', by have := HLow.out t' ht' e; omega⟩
              obtain ⟨W2, hW2⟩ : ∃ W2, W2 = W := ⟨_, rfl⟩
              have HF2 : Hid (RfAt W2 L who g { R with ls := R.ls.set d { o with turn := t, cr := cr1 } } (.slice (some ⟨gn, 0, none⟩) n nk) (.slice (some ⟨gq, 0, none⟩) n qk) (.slice (some ⟨gt, 0, none⟩) R.rs.length tc) dv (some ⟨gl, 0, none⟩) lk) := by
                rw [hW2, hcr1]
                exact HFW.out
              have HS2 : Hid (Step (ofP who) L w L W2) := by rw [hW2]; exact HSW.out
              generalize hxx : cr.getD t 0 = xx at *
              go_upto_region 17 with fail
              rw [← hW2]
              clear hW2 hcr1 hxx b5 bc bz bl0 hne hgc b13 bb hal
              have hcr1 := Hcr1.out
              have b11 : W2.cell? ⟨g, 11, none⟩ = some (.slice (some ⟨gn, 0, none⟩) n nk) := HF2.out.blk.1.cell 11
              obtain ⟨gl2, e2, hL2⟩ := HF2.out.focus (d := d) (o := { o with turn := t, cr := cr1 }) (by show (R.ls.set d { o with turn := t, cr := cr1 })[d]? = _; rw [List.getElem?_set_self hdl])
              obtain rfl : gl = gl2 := by simpa using e2
              obtain ⟨ca2, ck2, hC2⟩ := hL2.cells
              have b4 : W2.cell? ⟨gl, d * 9 + 4, none⟩ = some (.int .i64 (t : Nat)) := hC2.c4
              have b5 : W2.cell? ⟨gl, d * 9 + 5, none⟩ = some (.slice ca2 n ck2) := by have : _ = some (Value.slice _ cr1.length _) := hC2.c5; rw [hcr1] at this; exact this
              have bf := hC2.fz
              have bl := hC2.lt
              have HU20 := hide (HF2.out.lput (o' := { o with turn := t', cr := cr1 }) (v := .int .i64 (t' : Nat)) (d := d) (o := { o with turn := t, cr := cr1 }) (j := 4) (by show (R.ls.set d { o with turn := t, cr := cr1 })[d]? = _; rw [List.getElem?_set_self hdl]) (by omega) rfl (fun _ => rfl))
              have hgw2 := HF2.out.blk.1.lt
              clear hL2 hC2 e2 hcr1
              go_upto_if 109 with fail
              go_cut [9] (fun s9 wx => s9 = .int .i64 (t' : Nat) ∧ wx = W2)
              case first =>
                by_cases hw : (t : Int) + 1 = (n : Int)
                · have hw' : t' = 0 := by rw [Ht'.out, show t + 1 = n by omega, Nat.mod_self]
                  go_wp2_with fail
                  go_meet
                  exact ⟨by rw [hw']; rfl, rfl⟩
                · have hw' : t' = t + 1 := by rw [Ht'.out, Nat.mod_eq_of_lt (by omega)]
                  go_wp2_with fail
                  go_meet
                  exact ⟨by rw [hw']; rfl, rfl⟩
              case rest =>
              obtain ⟨rfl, rfl⟩ := hcut
              go_upto_region 21 with fail
              generalize hW3 : World.setCell _ _ _ = W3
              have hU20 : RfAt W3 L who g { R with ls := R.ls.set d { o with turn := t', cr := cr1 } } (.slice (some ⟨gn, 0, none⟩) n nk) (.slice (some ⟨gq, 0, none⟩) n qk) (.slice (some ⟨gt, 0, none⟩) R.rs.length tc) dv (some ⟨gl, 0, none⟩) lk := by
                have := HU20.out.1
                rw [hW3] at this
                simpa only [List.set_set] using this
              have hS20 := HU20.out.2
              rw [hW3] at hS20
              obtain ⟨gl3, e3, hL3⟩ := hU20.focus (d := d) (o := { o with turn := t', cr := cr1 }) (by show (R.ls.set d { o with turn := t', cr := cr1 })[d]? = _; rw [List.getElem?_set_self hdl])
              obtain rfl : gl = gl3 := by simpa using e3
              obtain ⟨gc3, ck3, hC3, hne3, hgc3, hcell3, hfz3⟩ := hL3.full (by show 0 < cr1.length; rw [Hcr1.out]; omega)
              have k5 : W3.cell? ⟨gl, d * 9 + 5, none⟩ = some (.slice (some ⟨gc3, 0, none⟩) n ck3) := by have : _ = some (Value.slice _ cr1.length _) := hC3.c5; rw [Hcr1.out] at this; exact this
              have k12 : W3.cell? ⟨g, 12, none⟩ = some (.slice (some ⟨gq, 0, none⟩) n qk) := hU20.blk.1.cell 12
              have kc : W3.cell? ⟨gc3, t', none⟩ = some (.int .i64 (cr1.getD t' 0)) := hcell3 t' (by show t' < cr1.length; rw [Hcr1.out]; exact ht')
              have kf := hfz3 t'
              have kq : W3.cell? ⟨gq, t', none⟩ = some (.int .i64 (R.qs.getD t' 0)) := by
                have hqu := hU20.qu
                rw [show R.qs.length = n from Hk.out.ql.trans Hn.out] at hqu
                obtain ⟨gq3, e4, _, _, h4, _⟩ := hqu.head (by omega)
                obtain rfl : gq = gq3 := by simpa using e4
                refine h4 t' _ ?_
                have hlt' : t' < R.qs.length := by rw [Hk.out.ql, Hn.out]; exact ht'
                simp [intsI, List.getD_eq_getElem?_getD, hlt']
              have HU21 := hide (hU20.lcredit hL3 hC3 t' (cr1.getD t' 0 + R.qs.getD t' 0))
              have HS3 : Hid (Step (ofP who) L w L W3) := HS2.out.trans hS20
              have hgw3 := hU20.blk.1.lt
              have hgl3 := hL3.cells
              have hgl3' : gl < W3.heap.size := by obtain ⟨_, _, q⟩ := hgl3; exact q.lt
              have hqb := Hk.out.q t' (by rw [Hn.out]; exact ht')
              have hcb := Hcrb.out
              have ht'I : (t' : Int) < (n : Int) := by omega
              have HPass : Hid (passR (R.sizes d) R.qs (t, cr) = (t', cr1.set t' (cr1.getD t' 0 + R.qs.getD t' 0))) := by
                show _ = _
                unfold passR
                simp only [HCr1.out, Hcl.out, ← Ht'.out]
              clear hW3 hU20 hS20 hL3 hC3 hcell3 hfz3 hgl3 e3 b11 b4 b5 bf bl
              generalize hx1 : cr1.getD t' 0 = x1 at *
              generalize hx2 : R.qs.getD t' 0 = x2 at *
              have hgk : 0 < gk := by
                rcases Nat.eq_zero_or_pos gk with e | e
                · exfalso
                  subst e
                  have e1 := HT.out
                  simp only [turnsR] at e1
                  have := HFound.out
                  rw [← e1] at this
                  have h2 := HNo.out
                  simp only at this
                  rw [this] at h2
                  cases h2
                · exact e
              go_region
              all_goals
                go_wp2_with fail
                go_roundg (gk - 1)
                case measure => omega
                case rel =>
                  have hp := (HR.out.pass (Rf.sizes_le Hk.out.bl d) (fun i hi => Hk.out.q i (by rw [Hn.out]; exact hi)) HNo.out).1
                  rw [HPass.out] at hp
                  refine ⟨t', cr1.set t' (x1 + x2), hp, ?_, HU21.out.1.keep (Step.drew (p := fun _ => False) L _) (fun _ h => h), (HS3.out.trans HU21.out.2).trans (Step.drew L _)⟩
                  have e1 := HT.out
                  rw [show gk = gk - 1 + 1 by omega] at e1
                  unfold turnsR at e1
                  rw [HNo.out, HPass.out] at e1
                  simpa using e1
      · have Hal := hide hal
        go_wp2_with fail
        refine wp_loop_rounds 1 ?_
        rw [rounds_succ]
        go_wp2_with fail
        go_ret
        have e : R.namedAt d o = (-1, R) := by unfold Rf.namedAt; rw [Hal.out]; rfl
        rw [e]
        exact ⟨rfl, ⟨_, _, _, _, _, _, HAw.out⟩, Step.of_below Hnx.out⟩
end Go.Proofs.YtojpjaifhjigfaaGreatDoor
