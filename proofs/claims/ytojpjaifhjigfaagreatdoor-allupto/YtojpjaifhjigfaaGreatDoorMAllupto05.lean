/- Steps of the proof (several texts in one): Place, Ref, RefAsk, LawCounts. -/
import Derived.Test.YtojpjaifhjigfaaGreatDoorMAllupto04
import Derived.Laws.ResultCell
import Derived.Test.YtojpjaifhjigfaaGreatDoorMAllupto02

/- place, Status: the batch of an id. -/
namespace Go.Proofs.YtojpjaifhjigfaaGreatDoor
open Go.RowKit Go.Maps

/-- Where a batch of this id lies: -1, if none does. -/
def findId (bs : List Bat) (id : List UInt8) : Int := match bs.findIdx? (fun b => b.id == id) with | some i => i | none => -1

theorem infoPBatch : (Tryz.prog.info? 155).map (·.size) = some 6 := by kernel_rfl

set_option maxHeartbeats 400000 in
theorem place1_any (b : Bat) (gi : Nat) (id : List UInt8) (w : World) (hi : w.cell? ⟨gi, 0, none⟩ = some (encStr id)) :
    Calls Tryz.prog 120 #[.agg b.cells.toArray, .pointer (some ⟨gi, 0, none⟩)] w fun e w' => e = .returned (.bool (b.id == id)) ∧ Below w.heap.size w w' := by
  have hil := World.block_lt_of_cell? w _ hi
  unfold Bat.cells
  go_enter Tryz.func120, Tryz.ntmps120
  go_wp2
  go_ret
  exact ⟨rfl, (Below.refl _ _).alloc (Nat.le_refl _) _⟩

set_option maxRecDepth 100000 in
set_option maxHeartbeats 1000000 in
theorem indexFunc_any (L : Labs) (l : Lab) (ta : Option Addr) (tc : Nat) (bs : List Bat) (gi : Nat) (id : List UInt8) (w : World) (h : RowAt w L l 155 6 (.slice ta bs.length tc) bs.length (bs.flatMap Bat.cells)) (hb : bs.length ≤ 120) (hi : w.cell? ⟨gi, 0, none⟩ = some (encStr id)) :
    Calls Tryz.prog 119 #[.slice ta bs.length tc, .func (.func 120) #[] #[.pointer (some ⟨gi, 0, none⟩)]] w fun e w' => e = .returned (.int .i64 (findId bs id)) ∧ Below w.heap.size w w' := by
  have hil := World.block_lt_of_cell? w _ hi
  have HH := hide h
  have HI := hide hi
  generalize hn : bs.length = n at *
  have Hn := hide hn
  clear h hi hn
  go_enter Tryz.func119, Tryz.ntmps119
  go_wp2_with fail
  go_loopw [8] (fun i wr => ∃ k : Nat, k ≤ n ∧ i = .int .i64 k ∧ (∀ j b, j < k → bs[j]? = some b → (b.id == id) = false) ∧ Below w.heap.size w wr) (fun i _ => n - (intOf i).toNat)
  case atStart => exact ⟨0, Nat.zero_le _, rfl, fun j b hj => by omega, Below.refl _ _⟩
  case round =>
    obtain ⟨k, hk, rfl, hno, hnx⟩ := hrel
    have Hno := hide hno
    have Hnx := hide hnx
    clear hno hnx
    by_cases hlt : k < n
    · have hltI : (k : Int) < (n : Int) := by omega
      obtain ⟨gt, rfl, hgt, _, hct, _⟩ := HH.out.head (by omega)
      obtain ⟨b, hb'⟩ : ∃ b, bs[k]? = some b := ⟨_, List.getElem?_eq_getElem (by rw [Hn.out]; exact hlt)⟩
      have hR : wr.rangeAt gt (k * 6) b.cells := fun j v hv => by
        rw [Hnx.out.cell (p := ⟨gt, _, none⟩) hgt]
        exact hct _ _ (flat_cell Bat.cells 6 Bat.cells_length hb' (by have := (List.getElem?_eq_some_iff.1 hv).1; rw [Bat.cells_length] at this; exact this) hv)
      have HR := hide hR
      have Hb := hide hb'
      clear hct hR hb'
      go_wp2_with (first
        | (refine wpList_load_mid rfl 155 _ rfl gt (k * 6) rfl b.cells _ HR.out Tryz.underlying155 rfl infoPBatch ?_)
        | fail)
      refine (place1_any b gi id _ (by rw [Hnx.out.cell (p := ⟨gi, 0, none⟩) hil]; exact HI.out)).mono ?_
      rintro e w2 ⟨rfl, hb2⟩
      have Hb2 : Hid (Below w.heap.size w w2) := Hnx.out.trans (hb2.mono Hnx.out.size)
      clear hb2
      cases hid : (b.id == id)
      · have Hid' := hide hid
        clear hid
        go_wp2_with fail
        go_roundw
        case rel =>
          refine ⟨k + 1, by omega, by go_num, fun j b' hj hj' => ?_, Hb2.out⟩
          rcases Nat.lt_succ_iff_lt_or_eq.1 hj with h1 | h1
          · exact Hno.out j b' h1 hj'
          · subst h1
            rw [Hb.out] at hj'
            cases hj'
            exact Hid'.out
        case measure => simp [intOf]; omega
      · have Hid' := hide hid
        clear hid
        go_wp2_with fail
        go_ret
        refine ⟨ret_int ?_, Hb2.out⟩
        have : bs.findIdx? (fun b => b.id == id) = some k := by
          rw [List.findIdx?_eq_some_iff_getElem]
          refine ⟨by rw [Hn.out]; exact hlt, ?_, fun j hj => ?_⟩
          · have := List.getElem?_eq_some_iff.1 Hb.out
            obtain ⟨h1, h2⟩ := this
            simp only [h2]; exact Hid'.out
          · simp [Hno.out j _ hj (List.getElem?_eq_getElem (by rw [Hn.out]; omega))]
        simp [findId, this]
    · go_wp2_with fail
      go_ret
      refine ⟨ret_int ?_, Hnx.out⟩
      have : bs.findIdx? (fun b => b.id == id) = none := by
        rw [List.findIdx?_eq_none_iff]
        intro b hb
        obtain ⟨j, hj, rfl⟩ := List.getElem_of_mem hb
        exact Hno.out j _ (by rw [Hn.out] at hj; omega) (List.getElem?_eq_getElem hj)
      simp [findId, this]

set_option maxHeartbeats 400000 in
theorem pPlace_any (L : Labs) (who g : Nat) (M : Ag) (id : List UInt8) (w : World) (h : AgentAt w L who g M) (hb : M.bs.length ≤ 120) :
    Calls Tryz.prog 75 #[.pointer (some ⟨g, 0, none⟩), encStr id] w fun e w' => e = .returned (.int .i64 (findId M.bs id)) ∧ Below w.heap.size w w' := by
  obtain ⟨bq, bm, cn, tv, dv, nv, rv, ov, h⟩ := h
  obtain ⟨ta, tc, rfl, _⟩ := h.tk.shape
  have c0 : w.cell? ⟨g, 0, none⟩ = some (.slice ta M.bs.length tc) := h.blk.1.cell 0
  have hgl := h.blk.1.lt
  have hmf : ∀ (fn : Fn) (first cap : Array Value) (w : World), (Instr.makeFunc fn first cap).run Tryz.prog w = .ok (.func fn first cap) w := fun _ _ _ _ => rfl
  have HT := hide h.tk
  clear h
  unfold encStr
  go_enter Tryz.func75, Tryz.ntmps75
  go_wp2_with fail
  refine (indexFunc_any L _ ta tc M.bs w.heap.size id _ (HT.out.keep (p := fun _ => False) (Step.alloc L w _) (fun h => h)) hb (by rw [World.cell?_alloc_new]; rfl)).mono ?_
  rintro e w' ⟨rfl, hb2⟩
  have Hb : Hid (Below w.heap.size w w') := ((Below.refl _ _).alloc (Nat.le_refl _) _).trans (hb2.mono (by simp))
  clear hb2
  go_wp2_with fail
  go_ret
  exact ⟨rfl, Hb.out⟩

theorem findId_cases (bs : List Bat) (id : List UInt8) : (findId bs id = -1 ∧ ∀ b ∈ bs, (b.id == id) = false) ∨ ∃ (i : Nat) (b : Bat), findId bs id = i ∧ bs[i]? = some b ∧ (b.id == id) = true := by
  unfold findId
  cases h : bs.findIdx? (fun b => b.id == id) with
  | none => exact Or.inl ⟨rfl, by rw [List.findIdx?_eq_none_iff] at h; exact h⟩
  | some i =>
    rw [List.findIdx?_eq_some_iff_getElem] at h
    obtain ⟨h1, h2, _⟩ := h
    exact Or.inr ⟨i, _, rfl, List.getElem?_eq_getElem h1, h2⟩

/-- Two results, the first of which lies in memory. -/
theorem results_cell_and {P : Program} {fn : Func} {p u : Tmp} {ty : TypeId} {tmps : Array Value} {w : World} {a : Addr} {v x : Value} (h : fn.results = #[.cell p ty, .tmp u]) (hp : tmps.getD p undef = .pointer (some a))
    (hl : (loadVar ty a).run P w = .ok v w) (hx : tmps.getD u undef = x) : (results fn tmps).run P w = .ok (.tuple #[v, x]) w := by
  rw [results_cell_tmp h, hp, hx]
  simp [asAddr, hl, Result.andThen]

/-- What has become of a batch. -/
def stat (b : Bat) : Value := .agg #[.int .i64 b.st, .int .i64 b.fl]
def noStat : Value := .agg #[.int .i64 0, .int .i64 0]
theorem infoStatus : (Tryz.prog.info? 82).map (·.size) = some 2 := by kernel_rfl

set_option maxRecDepth 100000 in
set_option maxHeartbeats 1000000 in
theorem status_none (A : Nat → Addr) (L : Labs) (who g : Nat) (M : Ag) (id : List UInt8) (w : World) (hS : Sents.Holds w 260 gl 11 A) (h : AgentAt w L who g M) (hb : M.bs.length ≤ 120) (hid : findId M.bs id = -1) :
    Calls Tryz.prog 34 #[.pointer (some ⟨g, 0, none⟩), encStr id] w fun e w' => e = .returned (.tuple #[noStat, ev A 4]) ∧ Below w.heap.size w w' := by
  have hc := hS.cell 4 (by decide)
  simp only [gl, List.getD_cons_zero, List.getD_cons_succ] at hc
  have hcl := World.block_lt_of_cell? w _ hc
  have H := fun o => hide (pPlace_any L who g M id (w.alloc o) (h.keep (p := fun _ => False) (Step.alloc L w _) (fun _ h => h)) hb)
  rw [hid] at H
  clear h hS hid
  go_enter Tryz.func34, Tryz.ntmps34
  go_wp2_with fail
  refine (H _).out.mono ?_
  rintro e w1 ⟨rfl, hb1⟩
  have hB1 : Below w.heap.size w w1 := ((Below.refl _ _).alloc (Nat.le_refl _) _).trans (hb1.mono (by simp))
  have hK1 : Blk w1 w.heap.size #[.int .i64 0, .int .i64 0] 82 := (Blk.new w _ _).below hb1 (by simp)
  have d0 : w1.cell? ⟨w.heap.size, 0, none⟩ = some (.int .i64 0) := hK1.cell 0
  have d1 : w1.cell? ⟨w.heap.size, 1, none⟩ = some (.int .i64 0) := hK1.cell 1
  have f0 := hK1.frozen 0
  have f1 := hK1.frozen 1
  have hc1 : w1.cell? ⟨_, 0, none⟩ = some (ev A 4) := (hB1.cell (p := ⟨_, 0, none⟩) hcl).trans hc
  have HB1 := hide hB1
  have HK1 := hide hK1
  have hlt1 := hK1.lt
  clear hb1 hB1 hK1 hc
  go_wp2_with fail
  go_region
  all_goals
    go_wp2_with fail
    have hK2 := ((HK1.out.set 0 (.int .i64 0)).set 1 (.int .i64 0)).drewN 1
    refine bodyPost_ret (v := .tuple #[noStat, ev A 4]) (results_cell_and Tryz.results34 rfl (run_loadVar_mid _ _ 0 82 [.int .i64 0, .int .i64 0] _ (hK2.range 0 _ rfl) Tryz.underlying82 rfl infoStatus) rfl) rfl ⟨rfl, ?_⟩
    exact ((HB1.out.setCell (Nat.le_refl _) _).setCell (Nat.le_refl _) _).drew

set_option maxRecDepth 100000 in
set_option maxHeartbeats 1000000 in
theorem status_some (L : Labs) (who g : Nat) (M : Ag) (id : List UInt8) (i : Nat) (b : Bat) (w : World) (h : AgentAt w L who g M) (hb : M.bs.length ≤ 120) (hid : findId M.bs id = i) (hbi : M.bs[i]? = some b) :
    Calls Tryz.prog 34 #[.pointer (some ⟨g, 0, none⟩), encStr id] w fun e w' => e = .returned (.tuple #[stat b, .nilIface]) ∧ Below w.heap.size w w' := by
  have H := fun o => hide (pPlace_any L who g M id (w.alloc o) (h.keep (p := fun _ => False) (Step.alloc L w _) (fun _ h => h)) hb)
  rw [hid] at H
  obtain ⟨bq, bm, cn, tv, dv, nv, rv, ov, h⟩ := h
  obtain ⟨ta, tc, rfl, _⟩ := h.tk.shape
  have hil : i < M.bs.length := (List.getElem?_eq_some_iff.1 hbi).1
  obtain ⟨gt, rfl, hgt, _, hct, _⟩ := h.tk.head (by omega)
  have c0 : w.cell? ⟨g, 0, none⟩ = some (.slice (some ⟨gt, 0, none⟩) M.bs.length tc) := h.blk.1.cell 0
  have hgl := h.blk.1.lt
  have c4 : w.cell? ⟨gt, i * 6 + 4, none⟩ = some (.int .i64 b.st) := hct _ _ (flat_cell Bat.cells 6 Bat.cells_length hbi (by omega) rfl)
  have c5 : w.cell? ⟨gt, i * 6 + 5, none⟩ = some (.int .i64 b.fl) := hct _ _ (flat_cell Bat.cells 6 Bat.cells_length hbi (by omega) rfl)
  have hilI : (i : Int) < (M.bs.length : Int) := by omega
  have hi1 : ¬ ((i : Int) = -1) := by omega
  have C0 := hide c0
  have C4 := hide c4
  have C5 := hide c5
  clear h hid hct c0 c4 c5
  go_enter Tryz.func34, Tryz.ntmps34
  go_wp2_with fail
  refine (H _).out.mono ?_
  rintro e w1 ⟨rfl, hb1⟩
  have hB1 : Below w.heap.size w w1 := ((Below.refl _ _).alloc (Nat.le_refl _) _).trans (hb1.mono (by simp))
  have hK1 : Blk w1 w.heap.size #[.int .i64 0, .int .i64 0] 82 := (Blk.new w _ _).below hb1 (by simp)
  have d0 : w1.cell? ⟨g, 0, none⟩ = some (.slice (some ⟨gt, 0, none⟩) M.bs.length tc) := (hB1.cell (p := ⟨g, 0, none⟩) hgl).trans C0.out
  have d4 : w1.cell? ⟨gt, i * 6 + 4, none⟩ = some (.int .i64 b.st) := (hB1.cell (p := ⟨gt, _, none⟩) hgt).trans C4.out
  have d5 : w1.cell? ⟨gt, i * 6 + 4 + 1, none⟩ = some (.int .i64 b.fl) := (hB1.cell (p := ⟨gt, _, none⟩) hgt).trans C5.out
  have k0 : w1.cell? ⟨w.heap.size, 0, none⟩ = some (.int .i64 0) := hK1.cell 0
  have k1 : w1.cell? ⟨w.heap.size, 1, none⟩ = some (.int .i64 0) := hK1.cell 1
  have f0 := hK1.frozen 0
  have f1 := hK1.frozen 1
  have HB1 := hide hB1
  have HK1 := hide hK1
  have hlt1 := hK1.lt
  clear hb1 hB1 hK1
  go_wp2_with fail
  have hK2 := (HK1.out.set 0 (.int .i64 b.st)).set 1 (.int .i64 b.fl)
  refine bodyPost_ret (v := .tuple #[stat b, .nilIface]) (results_cell_and Tryz.results34 rfl (run_loadVar_mid _ _ 0 82 [.int .i64 b.st, .int .i64 b.fl] _ (hK2.range 0 _ rfl) Tryz.underlying82 rfl infoStatus) rfl) rfl ⟨rfl, ?_⟩
  exact (HB1.out.setCell (Nat.le_refl _) _).setCell (Nat.le_refl _) _
end Go.Proofs.YtojpjaifhjigfaaGreatDoor

/- The document's agent in memory; place, tenant, pending, Waits, Status. -/
namespace Go.Proofs.YtojpjaifhjigfaaGreatDoor
open Go.RowKit Go.Maps

/-- A batch of the document's: with its pause, and when it may go. -/
structure RBat where
  b : Bat
  pa : Int
  af : Int
def RBat.cells (r : RBat) : List Value := r.b.cells ++ [.int .i64 r.pa, .int .i64 r.af]
theorem RBat.cells_length (r : RBat) : r.cells.length = 8 := rfl
theorem RBat.cell {l : List RBat} {p j : Nat} {r : RBat} {v : Value} (hp : l[p]? = some r) (hj : j < 8) (hv : r.cells[j]? = some v) : (l.flatMap RBat.cells)[p * 8 + j]? = some v := flat_cell RBat.cells 8 RBat.cells_length hp hj hv
/-- The document's agent: with its destinations (as the program's, but what stands in memory is another row), and its quanta. -/
structure Rf where
  c : Cfg
  m : Option Nat
  ns : List (List UInt8)
  rs : List RBat
  dead : List Nat
  time : Int
  ls : List Out
  qs : List Int
def Rf.bs (R : Rf) : List Bat := R.rs.map (·.b)

/-- A destination's cells. -/
def lineCells (o : Out) (cv : Value) : List Value := [.int .i64 o.res, .int .i64 o.fl, .bool o.trip, .int .i64 o.unt, .int .i64 o.turn, cv, .int .i64 o.sends, .int .i64 o.way, .int .i64 o.began]
/-- All destinations: the row's cells are those of each, in order; each has a row of credits. -/
def LinesAt (w : World) (L : Labs) (who : Nat) (v : Value) (ls : List Out) : Prop :=
  ∃ fs : List Value, fs.length = ls.length ∧ RowAt w L (some (who, .ol)) 159 9 v ls.length ((ls.zip fs).flatMap fun p => lineCells p.1 p.2) ∧
    ∀ (i : Nat) (o : Out) (f : Value), ls[i]? = some o → fs[i]? = some f → RowAt w L (some (who, .cr i)) 3 1 f o.cr.length (intsI o.cr)
theorem LinesAt.keep {w w' : World} {L L' : Labs} {who : Nat} {v : Value} {ls : List Out} (h : LinesAt w L who v ls) {p : Lab → Prop} (s : Step p L w L' w') (h1 : ¬ p (some (who, .ol))) (h3 : ∀ i, ¬ p (some (who, .cr i))) : LinesAt w' L' who v ls := by
  obtain ⟨fs, q1, q2, q3⟩ := h
  exact ⟨fs, q1, q2.keep s h1, fun i o f ho hf => (q3 i o f ho hf).keep s (h3 i)⟩

/-- Where its parts lie. -/
structure RfAt (w : World) (L : Labs) (who g : Nat) (R : Rf) (nv qv bv dv : Value) (la : Option Addr) (lk : Nat) : Prop where
  blk : BlkAt w L (some (who, .ag)) g (refCells R.c R.m nv qv bv dv (.slice la R.c.d.toNat lk) R.time) 109
  nm : RowAt w L (some (who, .nm)) 9 1 nv R.ns.length (R.ns.map encStr)
  tk : RowAt w L (some (who, .tk)) 112 8 bv R.rs.length (R.rs.flatMap RBat.cells)
  dd : RowAt w L (some (who, .dd)) 3 1 dv R.dead.length (ints R.dead)
  qu : RowAt w L (some (who, .rt)) 3 1 qv R.qs.length (intsI R.qs)
  ll : LinesAt w L who (.slice la R.c.d.toNat lk) R.ls
  ln : R.ls.length = R.c.d.toNat
def RefAt (w : World) (L : Labs) (who g : Nat) (R : Rf) : Prop := ∃ nv qv bv dv la lk, RfAt w L who g R nv qv bv dv la lk
theorem RfAt.keep {w w' : World} {L L' : Labs} {who g : Nat} {R : Rf} {nv qv bv dv : Value} {la : Option Addr} {lk : Nat} (h : RfAt w L who g R nv qv bv dv la lk) {p : Lab → Prop} (s : Step p L w L' w') (hp : ∀ q, ¬ p (some (who, q))) : RfAt w' L' who g R nv qv bv dv la lk :=
  ⟨h.blk.keep s (hp _), h.nm.keep s (hp _), h.tk.keep s (hp _), h.dd.keep s (hp _), h.qu.keep s (hp _), h.ll.keep s (hp _) (fun _ => hp _), h.ln⟩
theorem RefAt.keep {w w' : World} {L L' : Labs} {who g : Nat} {R : Rf} (h : RefAt w L who g R) {p : Lab → Prop} (s : Step p L w L' w') (hp : ∀ q, ¬ p (some (who, q))) : RefAt w' L' who g R := by
  obtain ⟨nv, qv, bv, dv, la, lk, h⟩ := h
  exact ⟨nv, qv, bv, dv, la, lk, h.keep s hp⟩
theorem RefAt.alloc {w : World} {L : Labs} {who g : Nat} {R : Rf} (h : RefAt w L who g R) (o : Obj) : RefAt (w.alloc o) L who g R := h.keep (Step.alloc (p := fun _ => False) L w o) (fun _ h => h)

theorem Rf.get {R : Rf} {k : Nat} {r : RBat} (h : R.rs[k]? = some r) : R.bs[k]? = some r.b := by simp [Rf.bs, h]

set_option maxRecDepth 100000 in
set_option maxHeartbeats 1000000 in
theorem refPlace_any (L : Labs) (who g : Nat) (R : Rf) (id : List UInt8) (w : World) (h : RefAt w L who g R) (hb : R.rs.length ≤ 120) :
    Calls Tryz.prog 85 #[.pointer (some ⟨g, 0, none⟩), encStr id] w fun e w' => e = .returned (.int .i64 (findId R.bs id)) ∧ w' = w := by
  obtain ⟨nv, qv, bv, dv, la, lk, h⟩ := h
  obtain ⟨ta, tc, rfl, _⟩ := h.tk.shape
  have c13 : w.cell? ⟨g, 13, none⟩ = some (.slice ta R.rs.length tc) := h.blk.1.cell 13
  have HT := hide h.tk
  have hbl : R.bs.length = R.rs.length := by simp [Rf.bs]
  generalize hn : R.rs.length = n at *
  have Hn := hide hn
  have Hbl := hide hbl
  clear h hn hbl
  go_enter Tryz.func85, Tryz.ntmps85
  go_wp2_with fail
  go_loop [5] (fun i => ∃ k : Nat, k ≤ n ∧ i = .int .i64 k ∧ (∀ j b, j < k → R.bs[j]? = some b → (b.id == id) = false)) (fun i => n - (intOf i).toNat)
  case atStart => exact ⟨0, Nat.zero_le _, rfl, fun j b hj => by omega⟩
  case round =>
    obtain ⟨k, hk, rfl, hno⟩ := hrel
    have Hno := hide hno
    clear hno
    by_cases hlt : k < n
    · have hltI : (k : Int) < (n : Int) := by omega
      obtain ⟨gt, rfl, hgt, _, hct, _⟩ := HT.out.head (by omega)
      obtain ⟨r, hr⟩ : ∃ r, R.rs[k]? = some r := ⟨_, List.getElem?_eq_getElem (by rw [Hn.out]; exact hlt)⟩
      have e2 : w.cell? ⟨gt, k * 8 + 2, none⟩ = some (encStr r.b.id) := hct _ _ (RBat.cell hr (by omega) rfl)
      have Hr := hide hr
      clear hct hr
      cases hid : (r.b.id == id)
      · have Hid' := hide hid
        go_wp2_with fail
        go_round
        case rel =>
          refine ⟨k + 1, by omega, by go_num, fun j b' hj hj' => ?_⟩
          rcases Nat.lt_succ_iff_lt_or_eq.1 hj with h1 | h1
          · exact Hno.out j b' h1 hj'
          · subst h1
            rw [Rf.get Hr.out] at hj'
            cases hj'
            exact Hid'.out
        case measure => simp [intOf]; omega
      · have Hid' := hide hid
        go_wp2_with fail
        go_ret
        refine ⟨ret_int ?_, rfl⟩
        have hkb : k < R.bs.length := by rw [Hbl.out]; exact hlt
        have : R.bs.findIdx? (fun b => b.id == id) = some k := by
          rw [List.findIdx?_eq_some_iff_getElem]
          refine ⟨hkb, ?_, fun j hj => ?_⟩
          · obtain ⟨h1, h2⟩ := List.getElem?_eq_some_iff.1 (Rf.get Hr.out)
            simp only [h2]; exact Hid'.out
          · simp [Hno.out j _ hj (List.getElem?_eq_getElem (by omega))]
        simp [findId, this]
    · go_wp2_with fail
      go_ret
      refine ⟨ret_int ?_, rfl⟩
      have : R.bs.findIdx? (fun b => b.id == id) = none := by
        rw [List.findIdx?_eq_none_iff]
        intro b hb
        obtain ⟨j, hj, rfl⟩ := List.getElem_of_mem hb
        exact Hno.out j _ (by rw [Hbl.out] at hj; omega) (List.getElem?_eq_getElem hj)
      simp [findId, this]

/-- Where a name lies: -1, if it does not. -/
def findN (ns : List (List UInt8)) (x : List UInt8) : Int := match ns.findIdx? (fun y => y == x) with | some i => i | none => -1
theorem findN_neg (ns : List (List UInt8)) (x : List UInt8) : findN ns x < 0 ↔ x ∉ ns := by
  unfold findN
  cases h : ns.findIdx? (fun y => y == x) with
  | none =>
    rw [List.findIdx?_eq_none_iff] at h
    exact ⟨fun _ hm => by simpa using h x hm, fun _ => by simp⟩
  | some i =>
    rw [List.findIdx?_eq_some_iff_getElem] at h
    obtain ⟨h1, h2, _⟩ := h
    have : x ∈ ns := by
      have e : ns[i] = x := by simpa using h2
      rw [← e]; exact List.getElem_mem h1
    simp [this]

set_option maxRecDepth 100000 in
set_option maxHeartbeats 1000000 in
theorem refTenant_any (L : Labs) (who g : Nat) (R : Rf) (x : List UInt8) (w : World) (h : RefAt w L who g R) (hb : R.ns.length ≤ 120) :
    Calls Tryz.prog 84 #[.pointer (some ⟨g, 0, none⟩), encStr x] w fun e w' => e = .returned (.int .i64 (findN R.ns x)) ∧ w' = w := by
  obtain ⟨nv, qv, bv, dv, la, lk, h⟩ := h
  obtain ⟨ta, tc, rfl, _⟩ := h.nm.shape
  have c11 : w.cell? ⟨g, 11, none⟩ = some (.slice ta R.ns.length tc) := h.blk.1.cell 11
  have HT := hide h.nm
  generalize hn : R.ns.length = n at *
  have Hn := hide hn
  clear h hn
  go_enter Tryz.func84, Tryz.ntmps84
  go_wp2_with fail
  go_loop [5] (fun i => ∃ k : Nat, k ≤ n ∧ i = .int .i64 k ∧ (∀ j y, j < k → R.ns[j]? = some y → (y == x) = false)) (fun i => n - (intOf i).toNat)
  case atStart => exact ⟨0, Nat.zero_le _, rfl, fun j b hj => by omega⟩
  case round =>
    obtain ⟨k, hk, rfl, hno⟩ := hrel
    have Hno := hide hno
    clear hno
    by_cases hlt : k < n
    · have hltI : (k : Int) < (n : Int) := by omega
      obtain ⟨gt, rfl, hgt, _, hct, _⟩ := HT.out.head (by omega)
      obtain ⟨r, hr⟩ : ∃ r, R.ns[k]? = some r := ⟨_, List.getElem?_eq_getElem (by rw [Hn.out]; exact hlt)⟩
      have e2 : w.cell? ⟨gt, k, none⟩ = some (encStr r) := hct _ _ (strs_get hr)
      have Hr := hide hr
      clear hct hr
      cases hid : (r == x)
      · have Hid' := hide hid
        go_wp2_with fail
        go_round
        case rel =>
          refine ⟨k + 1, by omega, by go_num, fun j b' hj hj' => ?_⟩
          rcases Nat.lt_succ_iff_lt_or_eq.1 hj with h1 | h1
          · exact Hno.out j b' h1 hj'
          · subst h1
            rw [Hr.out] at hj'
            cases hj'
            exact Hid'.out
        case measure => simp [intOf]; omega
      · have Hid' := hide hid
        go_wp2_with fail
        go_ret
        refine ⟨ret_int ?_, rfl⟩
        have : R.ns.findIdx? (fun y => y == x) = some k := by
          rw [List.findIdx?_eq_some_iff_getElem]
          refine ⟨by rw [Hn.out]; exact hlt, ?_, fun j hj => ?_⟩
          · obtain ⟨h1, h2⟩ := List.getElem?_eq_some_iff.1 Hr.out
            simp only [h2]; exact Hid'.out
          · have := Hno.out j _ hj (List.getElem?_eq_getElem (by rw [Hn.out]; omega))
            simpa using this
        simp [findN, this]
    · go_wp2_with fail
      go_ret
      refine ⟨ret_int ?_, rfl⟩
      have : R.ns.findIdx? (fun y => y == x) = none := by
        rw [List.findIdx?_eq_none_iff]
        intro b hb
        obtain ⟨j, hj, rfl⟩ := List.getElem_of_mem hb
        exact Hno.out j _ (by rw [Hn.out] at hj; omega) (List.getElem?_eq_getElem hj)
      simp [findN, this]

/-- How many of a tenant are pending. -/
def cntP (bs : List Bat) (t : List UInt8) : Nat := (bs.filter fun b => (b.ten == t) && decide (b.st = 1)).length
theorem cntP_le (bs : List Bat) (t : List UInt8) : cntP bs t ≤ bs.length := List.length_filter_le _ _
theorem cntP_step {bs : List Bat} {k : Nat} {b : Bat} (h : bs[k]? = some b) (t : List UInt8) : cntP (bs.take (k + 1)) t = cntP (bs.take k) t + (if (b.ten == t) && decide (b.st = 1) then 1 else 0) := by
  have hk : k < bs.length := (List.getElem?_eq_some_iff.1 h).1
  have hb : bs[k] = b := (List.getElem?_eq_some_iff.1 h).2
  unfold cntP
  rw [List.take_succ_eq_append_getElem hk, List.filter_append, List.length_append, hb]
  congr 1
  simp only [List.filter_cons, List.filter_nil]
  split <;> simp

set_option maxRecDepth 100000 in
set_option maxHeartbeats 1000000 in
theorem refPending_any (L : Labs) (who g : Nat) (R : Rf) (x : List UInt8) (w : World) (h : RefAt w L who g R) (hb : R.rs.length ≤ 120) :
    Calls Tryz.prog 86 #[.pointer (some ⟨g, 0, none⟩), encStr x] w fun e w' => e = .returned (.int .i64 (cntP R.bs x)) ∧ w' = w := by
  obtain ⟨nv, qv, bv, dv, la, lk, h⟩ := h
  obtain ⟨ta, tc, rfl, _⟩ := h.tk.shape
  have c13 : w.cell? ⟨g, 13, none⟩ = some (.slice ta R.rs.length tc) := h.blk.1.cell 13
  have HT := hide h.tk
  have hbl : R.bs.length = R.rs.length := by simp [Rf.bs]
  generalize hn : R.rs.length = n at *
  have Hn := hide hn
  have Hbl := hide hbl
  clear h hn hbl
  go_enter Tryz.func86, Tryz.ntmps86
  go_wp2_with fail
  go_loop [5, 6] (fun q i => ∃ k c : Nat, k ≤ n ∧ c ≤ k ∧ i = .int .i64 k ∧ q = .int .i64 c ∧ Hid (c = cntP (R.bs.take k) x)) (fun _ i => n - (intOf i).toNat)
  case atStart => exact ⟨0, 0, Nat.zero_le _, Nat.le_refl _, rfl, rfl, by simp [Hid, cntP]⟩
  case round =>
    obtain ⟨k, c, hk, hck, rfl, rfl, Hc⟩ := hrel
    by_cases hlt : k < n
    · have hltI : (k : Int) < (n : Int) := by omega
      obtain ⟨gt, rfl, hgt, _, hct, _⟩ := HT.out.head (by omega)
      obtain ⟨r, hr⟩ : ∃ r, R.rs[k]? = some r := ⟨_, List.getElem?_eq_getElem (by rw [Hn.out]; exact hlt)⟩
      have e1 : w.cell? ⟨gt, k * 8 + 1, none⟩ = some (encStr r.b.ten) := hct _ _ (RBat.cell hr (by omega) rfl)
      have e4 : w.cell? ⟨gt, k * 8 + 4, none⟩ = some (.int .i64 r.b.st) := hct _ _ (RBat.cell hr (by omega) rfl)
      have Hst : Hid (cntP (R.bs.take (k + 1)) x = cntP (R.bs.take k) x + (if (r.b.ten == x) && decide (r.b.st = 1) then 1 else 0)) := cntP_step (Rf.get hr) x
      clear hct hr
      cases hid : (r.b.ten == x)
      · have Hid' := hide hid
        go_wp2_with fail
        go_round
        case rel => exact ⟨k + 1, c, by omega, by omega, by go_num, rfl, by have := Hst.out; rw [Hid'.out] at this; simp at this; exact Hc.out.trans this.symm⟩
        case measure => simp [intOf]; omega
      · have Hid' := hide hid
        by_cases hst : r.b.st = 1
        · have Hs := hide hst
          go_wp2_with fail
          go_round
          case rel => exact ⟨k + 1, c + 1, by omega, by omega, by go_num, by go_num, by have := Hst.out; rw [Hid'.out, Hs.out] at this; simp at this; show c + 1 = _; rw [this, Hc.out]⟩
          case measure => simp [intOf]; omega
        · have Hs := hide hst
          go_wp2_with fail
          go_round
          case rel => exact ⟨k + 1, c, by omega, by omega, by go_num, rfl, by have := Hst.out; rw [Hid'.out] at this; simp [Hs.out] at this; exact Hc.out.trans this.symm⟩
          case measure => simp [intOf]; omega
    · go_wp2_with fail
      go_ret
      refine ⟨ret_int ?_, rfl⟩
      have := Hc.out
      rw [List.take_of_length_le (by rw [Hbl.out]; omega)] at this
      rw [this]

set_option maxHeartbeats 400000 in
theorem refWaits_any (L : Labs) (who g : Nat) (R : Rf) (t : Nat) (x : List UInt8) (w : World) (h : RefAt w L who g R) (hb : R.rs.length ≤ 120) (hx : R.ns[t]? = some x) :
    Calls Tryz.prog 121 #[.pointer (some ⟨g, 0, none⟩), .int .i64 t] w fun e w' => e = .returned (.int .i64 (cntP R.bs x)) ∧ w' = w := by
  have H := hide (refPending_any L who g R x w h hb)
  obtain ⟨nv, qv, bv, dv, la, lk, h⟩ := h
  obtain ⟨ta, tc, rfl, _⟩ := h.nm.shape
  have htl : t < R.ns.length := (List.getElem?_eq_some_iff.1 hx).1
  obtain ⟨gt, rfl, hgt, _, hct, _⟩ := h.nm.head (by omega)
  have c11 : w.cell? ⟨g, 11, none⟩ = some (.slice (some ⟨gt, 0, none⟩) R.ns.length tc) := h.blk.1.cell 11
  have e2 : w.cell? ⟨gt, t, none⟩ = some (encStr x) := hct _ _ (strs_get hx)
  have htI : (t : Int) < (R.ns.length : Int) := by omega
  clear h hct
  go_enter Tryz.func121, Tryz.ntmps121
  go_wp2_with fail
  refine H.out.mono ?_
  rintro e w' ⟨rfl, hw⟩
  have Hw := hide hw
  clear hw
  go_wp2_with fail
  go_ret
  exact ⟨rfl, Hw.out⟩
end Go.Proofs.YtojpjaifhjigfaaGreatDoor

/- Status and Died of the document's agent. -/
namespace Go.Proofs.YtojpjaifhjigfaaGreatDoor
open Go.RowKit Go.Maps

set_option maxRecDepth 100000 in
set_option maxHeartbeats 1000000 in
theorem refStatus_none (L : Labs) (who g : Nat) (R : Rf) (id : List UInt8) (w : World) (h : RefAt w L who g R) (hb : R.rs.length ≤ 120) (hid : findId R.bs id = -1) :
    Calls Tryz.prog 83 #[.pointer (some ⟨g, 0, none⟩), encStr id] w fun e w' => e = .returned (.tuple #[noStat, .int .i64 5]) ∧ Below w.heap.size w w' := by
  have H := fun o => hide (refPlace_any L who g R id (w.alloc o) (h.alloc o) hb)
  rw [hid] at H
  clear h hid
  go_enter Tryz.func83, Tryz.ntmps83
  go_wp2_with fail
  refine (H _).out.mono ?_
  rintro e w1 ⟨rfl, rfl⟩
  go_wp2_with fail
  refine bodyPost_ret (v := .tuple #[noStat, .int .i64 5]) (results_cell_and Tryz.results83 rfl (run_loadVar_mid _ _ 0 82 [.int .i64 0, .int .i64 0] _ (Blk.range (Blk.new w _ _) 0 _ rfl) Tryz.underlying82 rfl infoStatus) rfl) rfl ⟨rfl, (Below.refl _ _).alloc (Nat.le_refl _) _⟩

set_option maxRecDepth 100000 in
set_option maxHeartbeats 1000000 in
theorem refStatus_some (L : Labs) (who g : Nat) (R : Rf) (id : List UInt8) (i : Nat) (r : RBat) (w : World) (h : RefAt w L who g R) (hb : R.rs.length ≤ 120) (hid : findId R.bs id = i) (hr : R.rs[i]? = some r) :
    Calls Tryz.prog 83 #[.pointer (some ⟨g, 0, none⟩), encStr id] w fun e w' => e = .returned (.tuple #[stat r.b, .int .i64 0]) ∧ Below w.heap.size w w' := by
  have H := fun o => hide (refPlace_any L who g R id (w.alloc o) (h.alloc o) hb)
  rw [hid] at H
  obtain ⟨nv, qv, bv, dv, la, lk, h⟩ := h
  obtain ⟨ta, tc, rfl, _⟩ := h.tk.shape
  have hil : i < R.rs.length := (List.getElem?_eq_some_iff.1 hr).1
  obtain ⟨gt, rfl, hgt, _, hct, _⟩ := h.tk.head (by omega)
  have c13 : w.cell? ⟨g, 13, none⟩ = some (.slice (some ⟨gt, 0, none⟩) R.rs.length tc) := h.blk.1.cell 13
  have c4 : w.cell? ⟨gt, i * 8 + 4, none⟩ = some (.int .i64 r.b.st) := hct _ _ (RBat.cell hr (by omega) rfl)
  have c5 : w.cell? ⟨gt, i * 8 + 5, none⟩ = some (.int .i64 r.b.fl) := hct _ _ (RBat.cell hr (by omega) rfl)
  have hilI : (i : Int) < (R.rs.length : Int) := by omega
  have hi0 : ¬ ((i : Int) < 0) := by omega
  have n13 := fun o => cell?_alloc_old o c13
  have n4 := fun o => cell?_alloc_old o c4
  have n5 := fun o => cell?_alloc_old o c5
  clear h hid hct
  go_enter Tryz.func83, Tryz.ntmps83
  go_wp2_with fail
  refine (H _).out.mono ?_
  rintro e w1 ⟨rfl, rfl⟩
  go_wp2_with fail
  go_region
  all_goals
    go_wp2_with fail
    refine bodyPost_ret (v := .tuple #[stat r.b, .int .i64 0]) (results_cell_and Tryz.results83 rfl (run_loadVar_mid _ _ 0 82 [.int .i64 r.b.st, .int .i64 r.b.fl] _ (Blk.range (Blk.new w _ _) 0 _ rfl) Tryz.underlying82 rfl infoStatus) rfl) rfl ⟨rfl, ((Below.refl _ _).alloc (Nat.le_refl _) _).drew⟩

end Go.Proofs.YtojpjaifhjigfaaGreatDoor

/- (*pair).counts: does a map tell how many wait? -/
namespace Go.Proofs.YtojpjaifhjigfaaGreatDoor
open Go.RowKit Go.Maps

/-- The pairs' cells. -/
abbrev prCells (gx gy : Nat) (c : Cfg) (m : Option Nat) (sv lg : Value) : Array Value :=
  #[.pointer (some ⟨gx, 0, none⟩), .pointer (some ⟨gy, 0, none⟩), .int .i64 c.d, .map m, .int .i64 c.q, .int .i64 c.at', .int .i64 c.ba, .int .i64 c.ca, .int .i64 c.ti, .int .i64 c.wi, .int .i64 c.le, .float .f64 c.th, .int .i64 c.op, sv, lg]

def posB (bs : List Bat) (x : List UInt8) : Bool := decide (0 < cntP bs x)
def cntN (bs : List Bat) (ns : List (List UInt8)) : Nat := (ns.filter (posB bs)).length
theorem cntN_step {bs : List Bat} {ns : List (List UInt8)} {k : Nat} {x : List UInt8} (h : ns[k]? = some x) : cntN bs (ns.take (k + 1)) = cntN bs (ns.take k) + (if posB bs x then 1 else 0) := by
  have hk : k < ns.length := (List.getElem?_eq_some_iff.1 h).1
  have hb : ns[k] = x := (List.getElem?_eq_some_iff.1 h).2
  unfold cntN
  rw [List.take_succ_eq_append_getElem hk, List.filter_append, List.length_append, hb]
  congr 1
  simp only [List.filter_cons, List.filter_nil]
  split <;> simp

/-- A map of counts has as many entries as there are names with something. -/
theorem size_counts {w : World} {b n : Nat} {D : DataW Unit} {bs : List Bat} {ns : List (List UInt8)} (h : OM w b n D) (hC : CountsAre D (cntP bs)) (hns : ns.Nodup) (hk : ∀ x, 0 < cntP bs x → x ∈ ns) (hl : ∀ x ∈ ns, x.length ≤ maxLen) : Maps.size D = cntN bs ns := by
  rw [← size_strKeys h]
  unfold cntN
  refine List.Perm.length_eq ((List.perm_ext_iff_of_nodup ?_ (hns.filter _)).2 fun x => ?_)
  · obtain ⟨es, rfl, hkk⟩ := h.keysOf
    obtain ⟨es', e', hpw, _⟩ := h.entries lawS
    cases e'
    show (es.map fun p => strOf p.1).Nodup
    rw [List.nodup_iff_pairwise_ne, List.pairwise_map]
    refine (List.Pairwise.imp_of_mem (fun {p q} hp hq hne he => hne ?_) hpw)
    obtain ⟨v, hv⟩ := hkk p hp
    obtain ⟨y, _, hy, _⟩ := Maps.keyOf_str Tryz.underlying9 hv
    obtain ⟨v', hv'⟩ := hkk q hq
    obtain ⟨y', _, hy', _⟩ := Maps.keyOf_str Tryz.underlying9 hv'
    rw [hy, hy'] at he ⊢
    simpa [strOf] using he
  · rw [mem_strKeys h, List.mem_filter]
    constructor
    · intro hx
      have hxl : x.length ≤ maxLen := strKeys_le h Tryz.underlying9 x ((mem_strKeys h x).2 hx)
      rw [hC.has hxl] at hx
      have hx' : 0 < cntP bs x := by simpa using hx
      exact ⟨hk x hx', by simpa [posB] using hx'⟩
    · rintro ⟨hx, hp⟩
      rw [hC.has (hl x hx)]
      exact hp

set_option maxRecDepth 100000 in
set_option maxHeartbeats 1000000 in
theorem counts_any (L : Labs) (who gp gy b nb : Nat) (R : Rf) (D : DataW Unit) (w : World) (hp : w.cell? ⟨gp, 1, none⟩ = some (.pointer (some ⟨gy, 0, none⟩))) (h : RefAt w L who gy R) (hb : R.rs.length ≤ 120) (hnl : R.ns.length ≤ 120) (hO : OM w b nb D) (hC : CountsAre D (cntP R.bs)) (hl : ∀ x ∈ R.ns, x.length ≤ maxLen) (hsz : Maps.size D = cntN R.bs R.ns) :
    Calls Tryz.prog 81 #[.pointer (some ⟨gp, 0, none⟩), .map (some b)] w fun e w' => e = .returned (.bool true) ∧ w' = w := by
  have HW := hide (fun t x hx => refWaits_any L who gy R t x w h hb hx)
  obtain ⟨nv, qv, bv, dv, la, lk, h⟩ := h
  obtain ⟨ta, tc, rfl, _⟩ := h.nm.shape
  have c11 : w.cell? ⟨gy, 11, none⟩ = some (.slice ta R.ns.length tc) := h.blk.1.cell 11
  have HT := hide h.nm
  have HC := hide hC
  have Hl := hide hl
  have hbl : R.bs.length ≤ 120 := by simpa [Rf.bs] using hb
  have hln := fun ty => hO.len Tryz.underlying22 ty
  have Hs := hide hsz
  rw [hsz] at hln
  generalize hn : R.ns.length = n at *
  have Hn := hide hn
  clear h hn hC hl hsz
  go_enter Tryz.func81, Tryz.ntmps81
  go_wp2_with fail
  go_loop [5, 6, 7] (fun q s i => ∃ k c : Nat, k ≤ n ∧ c ≤ k ∧ q = .int .i64 c ∧ s = .bool true ∧ i = .int .i64 k ∧ Hid (c = cntN R.bs (R.ns.take k))) (fun _ _ i => n - (intOf i).toNat)
  case atStart => exact ⟨0, 0, Nat.zero_le _, Nat.le_refl _, rfl, rfl, rfl, by simp [Hid, cntN]⟩
  case round =>
    obtain ⟨k, c, hk, hck, rfl, rfl, rfl, Hc⟩ := hrel
    by_cases hlt : k < n
    · have hltI : (k : Int) < (n : Int) := by omega
      obtain ⟨gt, rfl, hgt, _, hct, _⟩ := HT.out.head (by omega)
      obtain ⟨x, hx⟩ : ∃ x, R.ns[k]? = some x := ⟨_, List.getElem?_eq_getElem (by rw [Hn.out]; exact hlt)⟩
      have e2 : w.cell? ⟨gt, k, none⟩ = some (encStr x) := hct _ _ (strs_get hx)
      have hxl := Hl.out x (List.mem_of_getElem? hx)
      have hkS := keyStr hxl
      have HWx := hide (HW.out k x hx)
      have Hst := hide (cntN_step (bs := R.bs) hx)
      have hc1 : cntP R.bs x ≤ 120 := Nat.le_trans (cntP_le _ _) hbl
      clear hct hx
      go_wp2_with fail
      refine HWx.out.mono ?_
      rintro e w' ⟨rfl, rfl⟩
      by_cases h0 : 0 < cntP R.bs x
      · have hhas : Maps.has D (.string x) = true := by rw [HC.out.has hxl]; simpa using h0
        have h0I : (0 : Int) < (cntP R.bs x : Int) := by omega
        have Hst1 : Hid (cntN R.bs (R.ns.take (k + 1)) = cntN R.bs (R.ns.take k) + 1) := by have := Hst.out; rw [show posB R.bs x = true by simpa [posB] using h0] at this; simp only [Hid]; simpa using this
        go_wp2_with (first
          | (at_lookup; refine wpList_lookup_own_ok_int _ rfl _ _ 22 rfl 9 3 .i64 lawS Tryz.underlying22 Tryz.underlying3 (zeroInt _) b _ _ rfl hO _ _ rfl hkS ?_; intro q hq hwq; obtain rfl := HC.out.look hxl hq; rw [hhas])
          | fail)
        go_round
        case rel => exact ⟨k + 1, c + 1, by omega, by omega, by go_num, rfl, by go_num, by show c + 1 = _; rw [Hst1.out, Hc.out]⟩
        case measure => simp [intOf]; omega
      · have hhas : Maps.has D (.string x) = false := by rw [HC.out.has hxl]; simpa using h0
        have hz : cntP R.bs x = 0 := by omega
        have Hst1 : Hid (cntN R.bs (R.ns.take (k + 1)) = cntN R.bs (R.ns.take k)) := by have := Hst.out; rw [show posB R.bs x = false by simpa [posB] using h0] at this; simp only [Hid]; simpa using this
        go_wp2_with (first
          | (at_lookup; refine wpList_lookup_own_ok_int _ rfl _ _ 22 rfl 9 3 .i64 lawS Tryz.underlying22 Tryz.underlying3 (zeroInt _) b _ _ rfl hO _ _ rfl hkS ?_; intro q hq hwq; obtain rfl := HC.out.look hxl hq; rw [hhas])
          | fail)
        go_round
        case rel => exact ⟨k + 1, c, by omega, by omega, rfl, rfl, by go_num, by show c = _; rw [Hst1.out, Hc.out]⟩
        case measure => simp [intOf]; omega
    · have Hc' : Hid (c = cntN R.bs R.ns) := by have := Hc.out; rw [List.take_of_length_le (by rw [Hn.out]; omega)] at this; exact this
      have hcI : ((cntN R.bs R.ns : Nat) : Int) = (c : Int) := by rw [Hc'.out]
      go_wp2_with fail
      go_ret
      exact ⟨rfl, rfl⟩
end Go.Proofs.YtojpjaifhjigfaaGreatDoor
