/- Steps of the proof (several texts in one): Place, Focus, Breaker, Lays. -/
import Derived.Test.YtojpjaifhjigfabGreatDoorMTwo02
import Derived.Laws.ResultCell
import Derived.Laws.FloatArith
import Derived.Shelf.SlGeneric
import Derived.Shelf.Strconv.Clone
import Derived.Shelf.Bits.Mul64
import Derived.Shelf.SlIter.Nil
import Derived.Shelf.SortM.Plain
import Derived.Shelf.SortM.SortNone
import Derived.Shelf.SlicesE.DeleteFunc
import Derived.Shelf.SlicesE.IndexFunc
import Derived.Ground.GgzProg
import Derived.Ground.SlgmProg
import Derived.Ground.SlgfProg
import Derived.Test.YtojpjaifhjigfabGreatDoorProg

/- place, Status: the batch of an id. -/
namespace Go.Proofs.YtojpjaifhjigfabGreatDoor
open Go.RowKit Go.Maps

/-- Where a batch of this id lies: -1, if none does. -/
def findId (bs : List Bat) (id : List UInt8) : Int := match bs.findIdx? (fun b => b.id == id) with | some i => i | none => -1

theorem infoPBatch : (Tryz.prog.info? 73).map (·.size) = some 6 := by kernel_rfl

set_option maxHeartbeats 400000 in
theorem place1_any (b : Bat) (gi : Nat) (id : List UInt8) (w : World) (hi : w.cell? ⟨gi, 0, none⟩ = some (encStr id)) :
    Calls Tryz.prog 44 #[.agg b.cells.toArray, .pointer (some ⟨gi, 0, none⟩)] w fun e w' => e = .returned (.bool (b.id == id)) ∧ Below w.heap.size w w' := by
  have hil := World.block_lt_of_cell? w _ hi
  unfold Bat.cells
  go_enter Tryz.func44, Tryz.ntmps44
  go_wp2
  go_ret
  exact ⟨rfl, (Below.refl _ _).alloc (Nat.le_refl _) _⟩

set_option maxRecDepth 100000 in
set_option maxHeartbeats 1000000 in
theorem indexFunc_any (L : Labs) (l : Lab) (ta : Option Addr) (tc : Nat) (bs : List Bat) (gi : Nat) (id : List UInt8) (w : World) (h : RowAt w L l 73 6 (.slice ta bs.length tc) bs.length (bs.flatMap Bat.cells)) (hb : bs.length ≤ 120) (hi : w.cell? ⟨gi, 0, none⟩ = some (encStr id)) :
    Calls Tryz.prog 43 #[.slice ta bs.length tc, .func (.func 44) #[] #[.pointer (some ⟨gi, 0, none⟩)]] w fun e w' => e = .returned (.int .i64 (findId bs id)) ∧ Below w.heap.size w w' := by
  have hil := World.block_lt_of_cell? w _ hi
  have HH := hide h
  have HI := hide hi
  generalize hn : bs.length = n at *
  have Hn := hide hn
  clear h hi hn
  go_enter Tryz.func43, Tryz.ntmps43
  go_wp2_with fail
  go_loopw [8] (fun i wr => ∃ k : Nat, k ≤ n ∧ i = .int .i64 k ∧ (∀ j b, j < k → bs[j]? = some b → (b.id == id) = false) ∧ Below w.heap.size w wr) (fun i _ => n - (intOf i).toNat)
  case atStart => exact ⟨0, Nat.zero_le _, rfl, fun j b hj => by omega, Below.refl _ _⟩
  case round =>
    obtain ⟨k, hk, rfl, hno, hnx⟩ := hrel
    have Hno := hide hno
    have Hnx := hide hnx
    clear hno hnx
    by_cases hlt : k < n
    · have hltI : (k : Int) < (n : Int) := by omega
      obtain ⟨gt, rfl, hgt, _, hct, _⟩ := HH.out.head (by omega)
      obtain ⟨b, hb'⟩ : ∃ b, bs[k]? = some b := ⟨_, List.getElem?_eq_getElem (by rw [Hn.out]; exact hlt)⟩
      have hR : wr.rangeAt gt (k * 6) b.cells := fun j v hv => by
        rw [Hnx.out.cell (p := ⟨gt, _, none⟩) hgt]
        exact hct _ _ (flat_cell Bat.cells 6 Bat.cells_length hb' (by have := (List.getElem?_eq_some_iff.1 hv).1; rw [Bat.cells_length] at this; exact this) hv)
      have HR := hide hR
      have Hb := hide hb'
      clear hct hR hb'
      go_wp2_with (first
        | (refine wpList_load_mid rfl 73 _ rfl gt (k * 6) rfl b.cells _ HR.out Tryz.underlying73 rfl infoPBatch ?_)
        | fail)
      refine (place1_any b gi id _ (by rw [Hnx.out.cell (p := ⟨gi, 0, none⟩) hil]; exact HI.out)).mono ?_
      rintro e w2 ⟨rfl, hb2⟩
      have Hb2 : Hid (Below w.heap.size w w2) := Hnx.out.trans (hb2.mono Hnx.out.size)
      clear hb2
      cases hid : (b.id == id)
      · have Hid' := hide hid
        clear hid
        go_wp2_with fail
        go_roundw
        case rel =>
          refine ⟨k + 1, by omega, by go_num, fun j b' hj hj' => ?_, Hb2.out⟩
          rcases Nat.lt_succ_iff_lt_or_eq.1 hj with h1 | h1
          · exact Hno.out j b' h1 hj'
          · subst h1
            rw [Hb.out] at hj'
            cases hj'
            exact Hid'.out
        case measure => simp [intOf]; omega
      · have Hid' := hide hid
        clear hid
        go_wp2_with fail
        go_ret
        refine ⟨ret_int ?_, Hb2.out⟩
        have : bs.findIdx? (fun b => b.id == id) = some k := by
          rw [List.findIdx?_eq_some_iff_getElem]
          refine ⟨by rw [Hn.out]; exact hlt, ?_, fun j hj => ?_⟩
          · have := List.getElem?_eq_some_iff.1 Hb.out
            obtain ⟨h1, h2⟩ := this
            simp only [h2]; exact Hid'.out
          · simp [Hno.out j _ hj (List.getElem?_eq_getElem (by rw [Hn.out]; omega))]
        simp [findId, this]
    · go_wp2_with fail
      go_ret
      refine ⟨ret_int ?_, Hnx.out⟩
      have : bs.findIdx? (fun b => b.id == id) = none := by
        rw [List.findIdx?_eq_none_iff]
        intro b hb
        obtain ⟨j, hj, rfl⟩ := List.getElem_of_mem hb
        exact Hno.out j _ (by rw [Hn.out] at hj; omega) (List.getElem?_eq_getElem hj)
      simp [findId, this]

set_option maxHeartbeats 400000 in
theorem pPlace_any (L : Labs) (who g : Nat) (M : Ag) (id : List UInt8) (w : World) (h : AgentAt w L who g M) (hb : M.bs.length ≤ 120) :
    Calls Tryz.prog 22 #[.pointer (some ⟨g, 0, none⟩), encStr id] w fun e w' => e = .returned (.int .i64 (findId M.bs id)) ∧ Below w.heap.size w w' := by
  obtain ⟨bq, bm, cn, tv, dv, nv, rv, ov, h⟩ := h
  obtain ⟨ta, tc, rfl, _⟩ := h.tk.shape
  have c0 : w.cell? ⟨g, 0, none⟩ = some (.slice ta M.bs.length tc) := h.blk.1.cell 0
  have hgl := h.blk.1.lt
  have hmf : ∀ (fn : Fn) (first cap : Array Value) (w : World), (Instr.makeFunc fn first cap).run Tryz.prog w = .ok (.func fn first cap) w := fun _ _ _ _ => rfl
  have HT := hide h.tk
  clear h
  unfold encStr
  go_enter Tryz.func22, Tryz.ntmps22
  go_wp2_with fail
  refine (indexFunc_any L _ ta tc M.bs w.heap.size id _ (HT.out.keep (p := fun _ => False) (Step.alloc L w _) (fun h => h)) hb (by rw [World.cell?_alloc_new]; rfl)).mono ?_
  rintro e w' ⟨rfl, hb2⟩
  have Hb : Hid (Below w.heap.size w w') := ((Below.refl _ _).alloc (Nat.le_refl _) _).trans (hb2.mono (by simp))
  clear hb2
  go_wp2_with fail
  go_ret
  exact ⟨rfl, Hb.out⟩

theorem findId_cases (bs : List Bat) (id : List UInt8) : (findId bs id = -1 ∧ ∀ b ∈ bs, (b.id == id) = false) ∨ ∃ (i : Nat) (b : Bat), findId bs id = i ∧ bs[i]? = some b ∧ (b.id == id) = true := by
  unfold findId
  cases h : bs.findIdx? (fun b => b.id == id) with
  | none => exact Or.inl ⟨rfl, by rw [List.findIdx?_eq_none_iff] at h; exact h⟩
  | some i =>
    rw [List.findIdx?_eq_some_iff_getElem] at h
    obtain ⟨h1, h2, _⟩ := h
    exact Or.inr ⟨i, _, rfl, List.getElem?_eq_getElem h1, h2⟩

/-- Two results, the first of which lies in memory. -/
theorem results_cell_and {P : Program} {fn : Func} {p u : Tmp} {ty : TypeId} {tmps : Array Value} {w : World} {a : Addr} {v x : Value} (h : fn.results = #[.cell p ty, .tmp u]) (hp : tmps.getD p undef = .pointer (some a))
    (hl : (loadVar ty a).run P w = .ok v w) (hx : tmps.getD u undef = x) : (results fn tmps).run P w = .ok (.tuple #[v, x]) w := by
  rw [results_cell_tmp h, hp, hx]
  simp [asAddr, hl, Result.andThen]

/-- What has become of a batch. -/
def stat (b : Bat) : Value := .agg #[.int .i64 b.st, .int .i64 b.fl]
def noStat : Value := .agg #[.int .i64 0, .int .i64 0]
theorem infoStatus : (Tryz.prog.info? 44).map (·.size) = some 2 := by kernel_rfl

set_option maxRecDepth 100000 in
set_option maxHeartbeats 1000000 in
theorem status_none (A : Nat → Addr) (L : Labs) (who g : Nat) (M : Ag) (id : List UInt8) (w : World) (hS : Sents.Holds w 197 gl 11 A) (h : AgentAt w L who g M) (hb : M.bs.length ≤ 120) (hid : findId M.bs id = -1) :
    Calls Tryz.prog 11 #[.pointer (some ⟨g, 0, none⟩), encStr id] w fun e w' => e = .returned (.tuple #[noStat, ev A 4]) ∧ Below w.heap.size w w' := by
  have hc := hS.cell 4 (by decide)
  simp only [gl, List.getD_cons_zero, List.getD_cons_succ] at hc
  have hcl := World.block_lt_of_cell? w _ hc
  have H := fun o => hide (pPlace_any L who g M id (w.alloc o) (h.keep (p := fun _ => False) (Step.alloc L w _) (fun _ h => h)) hb)
  rw [hid] at H
  clear h hS hid
  go_enter Tryz.func11, Tryz.ntmps11
  go_wp2_with fail
  refine (H _).out.mono ?_
  rintro e w1 ⟨rfl, hb1⟩
  have hB1 : Below w.heap.size w w1 := ((Below.refl _ _).alloc (Nat.le_refl _) _).trans (hb1.mono (by simp))
  have hK1 : Blk w1 w.heap.size #[.int .i64 0, .int .i64 0] 44 := (Blk.new w _ _).below hb1 (by simp)
  have d0 : w1.cell? ⟨w.heap.size, 0, none⟩ = some (.int .i64 0) := hK1.cell 0
  have d1 : w1.cell? ⟨w.heap.size, 1, none⟩ = some (.int .i64 0) := hK1.cell 1
  have f0 := hK1.frozen 0
  have f1 := hK1.frozen 1
  have hc1 : w1.cell? ⟨_, 0, none⟩ = some (ev A 4) := (hB1.cell (p := ⟨_, 0, none⟩) hcl).trans hc
  have HB1 := hide hB1
  have HK1 := hide hK1
  have hlt1 := hK1.lt
  clear hb1 hB1 hK1 hc
  go_wp2_with fail
  go_region
  all_goals
    go_wp2_with fail
    have hK2 := ((HK1.out.set 0 (.int .i64 0)).set 1 (.int .i64 0)).drewN 1
    refine bodyPost_ret (v := .tuple #[noStat, ev A 4]) (results_cell_and Tryz.results11 rfl (run_loadVar_mid _ _ 0 44 [.int .i64 0, .int .i64 0] _ (hK2.range 0 _ rfl) Tryz.underlying44 rfl infoStatus) rfl) rfl ⟨rfl, ?_⟩
    exact ((HB1.out.setCell (Nat.le_refl _) _).setCell (Nat.le_refl _) _).drew

set_option maxRecDepth 100000 in
set_option maxHeartbeats 1000000 in
theorem status_some (L : Labs) (who g : Nat) (M : Ag) (id : List UInt8) (i : Nat) (b : Bat) (w : World) (h : AgentAt w L who g M) (hb : M.bs.length ≤ 120) (hid : findId M.bs id = i) (hbi : M.bs[i]? = some b) :
    Calls Tryz.prog 11 #[.pointer (some ⟨g, 0, none⟩), encStr id] w fun e w' => e = .returned (.tuple #[stat b, .nilIface]) ∧ Below w.heap.size w w' := by
  have H := fun o => hide (pPlace_any L who g M id (w.alloc o) (h.keep (p := fun _ => False) (Step.alloc L w _) (fun _ h => h)) hb)
  rw [hid] at H
  obtain ⟨bq, bm, cn, tv, dv, nv, rv, ov, h⟩ := h
  obtain ⟨ta, tc, rfl, _⟩ := h.tk.shape
  have hil : i < M.bs.length := (List.getElem?_eq_some_iff.1 hbi).1
  obtain ⟨gt, rfl, hgt, _, hct, _⟩ := h.tk.head (by omega)
  have c0 : w.cell? ⟨g, 0, none⟩ = some (.slice (some ⟨gt, 0, none⟩) M.bs.length tc) := h.blk.1.cell 0
  have hgl := h.blk.1.lt
  have c4 : w.cell? ⟨gt, i * 6 + 4, none⟩ = some (.int .i64 b.st) := hct _ _ (flat_cell Bat.cells 6 Bat.cells_length hbi (by omega) rfl)
  have c5 : w.cell? ⟨gt, i * 6 + 5, none⟩ = some (.int .i64 b.fl) := hct _ _ (flat_cell Bat.cells 6 Bat.cells_length hbi (by omega) rfl)
  have hilI : (i : Int) < (M.bs.length : Int) := by omega
  have hi1 : ¬ ((i : Int) = -1) := by omega
  have C0 := hide c0
  have C4 := hide c4
  have C5 := hide c5
  clear h hid hct c0 c4 c5
  go_enter Tryz.func11, Tryz.ntmps11
  go_wp2_with fail
  refine (H _).out.mono ?_
  rintro e w1 ⟨rfl, hb1⟩
  have hB1 : Below w.heap.size w w1 := ((Below.refl _ _).alloc (Nat.le_refl _) _).trans (hb1.mono (by simp))
  have hK1 : Blk w1 w.heap.size #[.int .i64 0, .int .i64 0] 44 := (Blk.new w _ _).below hb1 (by simp)
  have d0 : w1.cell? ⟨g, 0, none⟩ = some (.slice (some ⟨gt, 0, none⟩) M.bs.length tc) := (hB1.cell (p := ⟨g, 0, none⟩) hgl).trans C0.out
  have d4 : w1.cell? ⟨gt, i * 6 + 4, none⟩ = some (.int .i64 b.st) := (hB1.cell (p := ⟨gt, _, none⟩) hgt).trans C4.out
  have d5 : w1.cell? ⟨gt, i * 6 + 4 + 1, none⟩ = some (.int .i64 b.fl) := (hB1.cell (p := ⟨gt, _, none⟩) hgt).trans C5.out
  have k0 : w1.cell? ⟨w.heap.size, 0, none⟩ = some (.int .i64 0) := hK1.cell 0
  have k1 : w1.cell? ⟨w.heap.size, 1, none⟩ = some (.int .i64 0) := hK1.cell 1
  have f0 := hK1.frozen 0
  have f1 := hK1.frozen 1
  have HB1 := hide hB1
  have HK1 := hide hK1
  have hlt1 := hK1.lt
  clear hb1 hB1 hK1
  go_wp2_with fail
  have hK2 := (HK1.out.set 0 (.int .i64 b.st)).set 1 (.int .i64 b.fl)
  refine bodyPost_ret (v := .tuple #[stat b, .nilIface]) (results_cell_and Tryz.results11 rfl (run_loadVar_mid _ _ 0 44 [.int .i64 b.st, .int .i64 b.fl] _ (hK2.range 0 _ rfl) Tryz.underlying44 rfl infoStatus) rfl) rfl ⟨rfl, ?_⟩
  exact (HB1.out.setCell (Nat.le_refl _) _).setCell (Nat.le_refl _) _
end Go.Proofs.YtojpjaifhjigfabGreatDoor

/- One destination of an agent: its cells, and how a store turns it. -/
namespace Go.Proofs.YtojpjaifhjigfabGreatDoor
open Go.RowKit Go.Maps

theorem Out.cells_length (o : Out) (fv cv : Value) : (o.cells fv cv).length = 10 := rfl
def olP (who : Nat) : Lab → Prop := fun l => l = some (who, .ol)

/-- The destinations, one of which is this. -/
def OutF (w : World) (L : Labs) (who th go k : Nat) (os : List Out) (d : Nat) (o : Out) : Prop := d < os.length ∧ OutsAt w L who th (.slice (some ⟨go, 0, none⟩) os.length k) (os.set d o)

theorem OutF.keep {w w' : World} {L L' : Labs} {who th go k d : Nat} {os : List Out} {o : Out} (h : OutF w L who th go k os d o) {p : Lab → Prop} (s : Step p L w L' w') (h1 : ¬ p (some (who, .ol))) (h2 : ∀ i, ¬ p (some (who, .th i))) (h3 : ∀ i, ¬ p (some (who, .cr i))) : OutF w' L' who th go k os d o := ⟨h.1, h.2.keep s h1 h2 h3⟩
theorem OutF.below {w w' : World} {L : Labs} {who th go k d : Nat} {os : List Out} {o : Out} (h : OutF w L who th go k os d o) (hb : Below w.heap.size w w') : OutF w' L who th go k os d o := h.keep (Step.of_below (p := fun _ => False) hb) (fun h => h) (fun _ h => h) (fun _ h => h)

theorem set_zip {α β : Type} : ∀ (l : List α) (m : List β) (d : Nat) (a : α) (b : β), m[d]? = some b → (l.set d a).zip m = (l.zip m).set d (a, b)
  | [], m, d, a, b, h => by simp
  | x :: l, [], d, a, b, h => by simp at h
  | x :: l, y :: m, 0, a, b, h => by simp at h; simp [h]
  | x :: l, y :: m, d + 1, a, b, h => by simp at h; simp [set_zip l m d a b h]

/-- A store into a cell of it. -/
theorem OutF.put {w : World} {L : Labs} {who th go k d : Nat} {os : List Out} {o : Out} (h : OutF w L who th go k os d o) (j : Nat) (v : Value) (o' : Out) (hj : j < 10) (hcr : o'.cr = o.cr) (hc : ∀ fv cv, o'.cells fv cv = (o.cells fv cv).set j v) :
    OutF (w.setCell ⟨go, d * 10 + j, none⟩ v) L who th go k os d o' ∧ Step (olP who) L w L (w.setCell ⟨go, d * 10 + j, none⟩ v) := by
  obtain ⟨hd, fs, hfl, hrow, hall⟩ := h
  simp only [List.length_set] at hfl hrow
  have hs : Step (olP who) L w L (w.setCell ⟨go, d * 10 + j, none⟩ v) := Step.setCell _ _ _ _ (hrow.2 go (by simp [Value.ownBlock]))
  obtain ⟨f, hf⟩ : ∃ f, fs[d]? = some f := ⟨_, List.getElem?_eq_getElem (by omega)⟩
  refine ⟨⟨hd, fs, by simpa using hfl, ?_, fun i x f' hx hf' => ?_⟩, hs⟩
  · have hr := hrow.set (d * 10 + j) v
    have hz : ((os.set d o).zip fs)[d]? = some (o, f) := by simp [List.getElem?_zip_eq_some, hd, hf]
    have e := flat_set (fun p : Out × Value × Value => p.1.cells p.2.1 p.2.2) 10 (fun _ => rfl) ((os.set d o).zip fs) d j (o, f) (o', f) v hj hz (hc f.1 f.2)
    have e2 := set_zip (os.set d o) fs d o' f hf
    rw [List.set_set] at e2
    rw [← e2] at e
    simp only [List.length_set]
    rw [← e]
    exact hr
  · by_cases e : i = d
    · subst e
      obtain rfl : x = o' := by simpa [hd, eq_comm] using hx
      obtain ⟨g, r1, r2, r3⟩ := hall i o f' (by simp [hd]) hf'
      refine ⟨g, r1, r2.keep hs (by simp [olP]), ?_⟩
      rw [hcr]
      exact r3.keep hs (by simp [olP])
    · have hx' : (os.set d o)[i]? = some x := by
        rw [List.getElem?_set_ne (fun e' => e e'.symm)] at hx ⊢
        exact hx
      obtain ⟨g, r1, r2, r3⟩ := hall i x f' hx' hf'
      exact ⟨g, r1, r2.keep hs (by simp [olP]), r3.keep hs (by simp [olP])⟩

/-- Its cells. -/
structure OutCells (w : World) (L : Labs) (who th go d : Nat) (o : Out) (g : Nat) (ca : Option Addr) (ck : Nat) : Prop where
  c0 : w.cell? ⟨go, d * 10, none⟩ = some (.func (.func 80) #[] #[.pointer (some ⟨g, 0, none⟩)])
  cg : w.cell? ⟨g, 0, none⟩ = some (.float .f64 th)
  c1 : w.cell? ⟨go, d * 10 + 1, none⟩ = some (.int .i64 o.res)
  c2 : w.cell? ⟨go, d * 10 + 2, none⟩ = some (.int .i64 o.fl)
  c3 : w.cell? ⟨go, d * 10 + 3, none⟩ = some (.bool o.trip)
  c4 : w.cell? ⟨go, d * 10 + 4, none⟩ = some (.int .i64 o.unt)
  c5 : w.cell? ⟨go, d * 10 + 5, none⟩ = some (.int .i64 o.turn)
  c6 : w.cell? ⟨go, d * 10 + 6, none⟩ = some (.slice ca o.cr.length ck)
  c7 : w.cell? ⟨go, d * 10 + 7, none⟩ = some (.int .i64 o.sends)
  c8 : w.cell? ⟨go, d * 10 + 8, none⟩ = some (.int .i64 o.way)
  c9 : w.cell? ⟨go, d * 10 + 9, none⟩ = some (.int .i64 o.began)
  fz : ∀ i, w.frozen? ⟨go, i, none⟩ = false
  lt : go < w.heap.size
  lg : g < w.heap.size
  lab : L go = some (who, .ol)
  cr : RowAt w L (some (who, .cr d)) 3 1 (.slice ca o.cr.length ck) o.cr.length (intsI o.cr)
theorem OutF.cells {w : World} {L : Labs} {who th go k d : Nat} {os : List Out} {o : Out} (h : OutF w L who th go k os d o) : ∃ g ca ck, OutCells w L who th go d o g ca ck := by
  obtain ⟨hd, fs, hfl, hrow, hall⟩ := h
  simp only [List.length_set] at hfl hrow
  obtain ⟨f, hf⟩ : ∃ f, fs[d]? = some f := ⟨_, List.getElem?_eq_getElem (by omega)⟩
  obtain ⟨g, r1, r2, r3⟩ := hall d o f (by simp [hd]) hf
  obtain ⟨g', e, hlt, hlab, hcell, hfz⟩ := hrow.head (by omega)
  obtain rfl : go = g' := by simpa using e
  have hz : ((os.set d o).zip fs)[d]? = some (o, f) := by simp [List.getElem?_zip_eq_some, hd, hf]
  obtain ⟨f1, f2⟩ := f
  simp only at r1
  subst r1
  obtain ⟨ca, ck, rfl, _⟩ := r3.shape
  have hc := fun j v (hj : j < 10) hv => hcell (d * 10 + j) v (flat_cell (fun p : Out × Value × Value => p.1.cells p.2.1 p.2.2) 10 (fun _ => rfl) hz hj hv)
  exact ⟨g, ca, ck, ⟨hc 0 _ (by omega) rfl, r2.1.cell 0, hc 1 _ (by omega) rfl, hc 2 _ (by omega) rfl, hc 3 _ (by omega) rfl, hc 4 _ (by omega) rfl, hc 5 _ (by omega) rfl, hc 6 _ (by omega) rfl, hc 7 _ (by omega) rfl, hc 8 _ (by omega) rfl, hc 9 _ (by omega) rfl, hfz, hlt, r2.1.lt, hlab, r3⟩⟩

/-- A store into its credits. -/
theorem OutF.credit {w : World} {L : Labs} {who th go k d : Nat} {os : List Out} {o : Out} {g gc ck : Nat} (h : OutF w L who th go k os d o) (hC : OutCells w L who th go d o g (some ⟨gc, 0, none⟩) ck) (t : Nat) (v : Int) :
    OutF (w.setCell ⟨gc, t, none⟩ (.int .i64 v)) L who th go k os d { o with cr := o.cr.set t v } ∧ Step (fun l => l = some (who, .cr d)) L w L (w.setCell ⟨gc, t, none⟩ (.int .i64 v)) := by
  obtain ⟨hd, fs, hfl, hrow, hall⟩ := h
  simp only [List.length_set] at hfl hrow
  have hs : Step (fun l => l = some (who, .cr d)) L w L (w.setCell ⟨gc, t, none⟩ (.int .i64 v)) := Step.setCell _ _ _ _ (hC.cr.2 gc (by simp [Value.ownBlock]))
  obtain ⟨f, hf⟩ : ∃ f, fs[d]? = some f := ⟨_, List.getElem?_eq_getElem (by omega)⟩
  have hz : ((os.set d o).zip fs)[d]? = some (o, f) := by simp [List.getElem?_zip_eq_some, hd, hf]
  have hf2 : f.2 = .slice (some ⟨gc, 0, none⟩) o.cr.length ck := by
    obtain ⟨g', e, hlt, hlab, hcell, hfz⟩ := hrow.head (by omega)
    obtain rfl : go = g' := by simpa using e
    have := hcell (d * 10 + 6) _ (flat_cell (fun p : Out × Value × Value => p.1.cells p.2.1 p.2.2) 10 (fun _ => rfl) hz (j := 6) (by omega) rfl)
    rw [hC.c6] at this
    simpa using this.symm
  refine ⟨⟨hd, fs, by simpa using hfl, ?_, fun i x f' hx hf' => ?_⟩, hs⟩
  · have hr := hrow.keep hs (by simp)
    have e : (((os.set d o).zip fs).flatMap fun p : Out × Value × Value => p.1.cells p.2.1 p.2.2) = (((os.set d { o with cr := o.cr.set t v }).zip fs).flatMap fun p : Out × Value × Value => p.1.cells p.2.1 p.2.2) := by
      rw [set_zip os fs d o f hf, set_zip os fs d _ f hf]
      apply List.ext_getElem?
      intro i
      have h10 : i = i / 10 * 10 + i % 10 := by omega
      rw [h10, flat_get (fun p : Out × Value × Value => p.1.cells p.2.1 p.2.2) 10 (fun _ => rfl) _ _ _ (by omega), flat_get (fun p : Out × Value × Value => p.1.cells p.2.1 p.2.2) 10 (fun _ => rfl) _ _ _ (by omega)]
      by_cases e : d = i / 10
      · subst e
        simp only [List.getElem?_set, if_true]
        split <;> rfl
      · rw [List.getElem?_set_ne e, List.getElem?_set_ne e]
    simp only [List.length_set]
    rw [← e]
    exact hr
  · by_cases e : i = d
    · subst e
      obtain rfl : x = { o with cr := o.cr.set t v } := by simpa [hd, eq_comm] using hx
      obtain rfl : f = f' := by rw [hf] at hf'; exact Option.some.inj hf'
      obtain ⟨g', r1, r2, r3⟩ := hall i o f (by simp [hd]) hf
      refine ⟨g', r1, r2.keep hs (by simp), ?_⟩
      rw [hf2] at r3 ⊢
      have := r3.set t (.int .i64 v)
      simpa [intsI, List.map_set] using this
    · have hx' : (os.set d o)[i]? = some x := by
        rw [List.getElem?_set_ne (fun e' => e e'.symm)] at hx ⊢
        exact hx
      obtain ⟨g', r1, r2, r3⟩ := hall i x f' hx' hf'
      exact ⟨g', r1, r2.keep hs (by simp), r3.keep hs (by simp; exact e)⟩

/-- An agent's parts beside its destinations. -/
theorem AgAt.outs {w w' : World} {L L' : Labs} {who g : Nat} {M : Ag} {bq bm cn : Nat} {tv dv nv rv ov : Value} {os : List Out} (h : AgAt w L who g M bq bm cn tv dv nv rv ov) {p : Lab → Prop} (s : Step p L w L' w') (hp : ∀ q, p (some (who, q)) → q = .ol ∨ ∃ d, q = .cr d) (ho : OutsAt w' L' who M.c.th ov os) : AgAt w' L' who g { M with os := os } bq bm cn tv dv nv rv ov :=
  ⟨h.blk.keep s (fun e => by rcases hp _ e with e | ⟨d, e⟩ <;> cases e), h.tk.keep s (fun e => by rcases hp _ e with e | ⟨d, e⟩ <;> cases e), h.qs.keep s (fun e => by rcases hp _ e with e | ⟨d, e⟩ <;> cases e) (fun _ _ e => by rcases hp _ e with e | ⟨d, e⟩ <;> cases e), h.dd.keep s (fun e => by rcases hp _ e with e | ⟨d, e⟩ <;> cases e), h.nm.keep s (fun e => by rcases hp _ e with e | ⟨d, e⟩ <;> cases e), h.rt.keep s (fun e => by rcases hp _ e with e | ⟨d, e⟩ <;> cases e), ho, h.cm.keep s (fun e => by rcases hp _ e with e | ⟨d, e⟩ <;> cases e)⟩
theorem set_self {α : Type} (l : List α) (d : Nat) (a : α) (h : l[d]? = some a) : l.set d a = l := by
  apply List.ext_getElem?
  intro i
  rw [List.getElem?_set]
  by_cases e : d = i
  · subst e
    rw [if_pos rfl, if_pos (List.getElem?_eq_some_iff.1 h).1, h]
  · rw [if_neg e]
/-- The destination of this place of an agent. -/
theorem AgAt.focus {w : World} {L : Labs} {who g : Nat} {M : Ag} {bq bm cn : Nat} {tv dv nv rv ov : Value} (h : AgAt w L who g M bq bm cn tv dv nv rv ov) {d : Nat} {o : Out} (ho : M.os[d]? = some o) : ∃ go k, ov = .slice (some ⟨go, 0, none⟩) M.os.length k ∧ OutF w L who M.c.th go k M.os d o := by
  have hd := (List.getElem?_eq_some_iff.1 ho).1
  obtain ⟨fs, h1, h2, h3⟩ := h.ol
  obtain ⟨a, k, rfl, _⟩ := h2.shape
  obtain ⟨go, rfl, _⟩ := h2.head (by omega)
  refine ⟨go, k, rfl, hd, ?_⟩
  rw [set_self _ _ _ ho]
  exact ⟨fs, h1, h2, h3⟩
end Go.Proofs.YtojpjaifhjigfabGreatDoor

/- Breakers and turns, as plain data. -/
namespace Go.Proofs.YtojpjaifhjigfabGreatDoor
open Go.RowKit Go.Maps

/-- The quotient of the failures, as float64; is it too great? -/
@[irreducible] def quot (f r : Int) : Nat := (FloatKind.f64.format.div (floatOfInt .f64 f) (floatOfInt .f64 r)).getD 0
@[irreducible] def tooMany (th : Nat) (f r : Int) : Bool := (FloatKind.f64.format.order (quot f r) th == some .gt) || (FloatKind.f64.format.order (quot f r) th == some .eq)
theorem quot_all : ((List.range 65).all fun f => (List.range 64).all fun r => (FloatKind.f64.format.div (floatOfInt .f64 (f : Nat)) (floatOfInt .f64 ((r + 1 : Nat) : Int))).isSome) = true := by kernel_rfl
theorem quot_some {f r : Int} (h0 : 0 ≤ f) (h1 : f ≤ 64) (h2 : 1 ≤ r) (h3 : r ≤ 64) : floatBits .quo .f64 (floatOfInt .f64 f) (floatOfInt .f64 r) = some (quot f r) := by
  have := List.all_eq_true.1 quot_all f.toNat (by simp; omega)
  have := List.all_eq_true.1 this (r.toNat - 1) (by simp; omega)
  rw [show ((f.toNat : Nat) : Int) = f by omega, show ((r.toNat - 1 + 1 : Nat) : Int) = r by omega] at this
  obtain ⟨q, hq⟩ := Option.isSome_iff_exists.1 this
  show FloatKind.f64.format.div _ _ = _
  rw [quot, hq]; rfl

/-- What a result makes of a destination's breaker. -/
def Out.tripped (o : Out) (u : Int) : Out := { o with trip := true, unt := u, res := 0, fl := 0 }
def Out.counted (o : Out) (c : Cfg) (now : Int) (good : Bool) : Out :=
  let r := o.res + 1
  let f := if good then o.fl else o.fl + 1
  if decide (c.le ≤ r) && tooMany c.th f r then { o with trip := true, unt := now + c.op, res := 0, fl := 0 } else if r = c.wi then { o with res := 0, fl := 0 } else { o with res := r, fl := f }
def Out.heard (o : Out) (c : Cfg) (now : Int) (good : Bool) : Out :=
  if o.trip then (if good then { o with trip := false } else { o with trip := true, unt := now + c.op, res := 0, fl := 0 }) else o.counted c now good

/-- The pause behind a failure. -/
def nextPause (c : Cfg) (pa draw : Int) : Int := min c.ca (c.ba + draw % (3 * pa - c.ba + 1))

/-- Turns. -/
def allowsR (sizes : List Nat) (t : Nat) (cr : List Int) : Bool := decide (0 < sizes.getD t 0) && decide ((sizes.getD t 0 : Int) ≤ cr.getD t 0)
def passR (sizes : List Nat) (quanta : List Int) (s : Nat × List Int) : Nat × List Int :=
  let cr := if sizes.getD s.1 0 = 0 then s.2.set s.1 0 else s.2
  let t := (s.1 + 1) % s.2.length
  (t, cr.set t (cr.getD t 0 + quanta.getD t 0))
def turnsR (sizes : List Nat) (quanta : List Int) : Nat → Nat × List Int → Nat × List Int
  | 0, s => s
  | n + 1, s => if allowsR sizes s.1 s.2 then s else turnsR sizes quanta n (passR sizes quanta s)
theorem turnsR_allows {sizes : List Nat} {quanta : List Int} {n : Nat} {s : Nat × List Int} (h : allowsR sizes s.1 s.2 = true) : turnsR sizes quanta n s = s := by
  cases n <;> simp [turnsR, h]

/-- What holds of turns and credits: whoever has not the turn has less than the least quantum. -/
structure Rot (n : Nat) (s : Nat × List Int) : Prop where
  turn : s.1 < n
  len : s.2.length = n
  pos : ∀ i, i < n → 0 ≤ s.2.getD i 0
  low : ∀ i, i < n → i ≠ s.1 → s.2.getD i 0 ≤ 63
  top : s.2.getD s.1 0 ≤ 1063
theorem getD_set {l : List Int} {i j : Nat} {v : Int} (h : i < l.length) : (l.set i v).getD j 0 = if i = j then v else l.getD j 0 := by
  simp only [List.getD_eq_getElem?_getD, List.getElem?_set]
  by_cases e : i = j
  · subst e; simp [h]
  · simp [e]
theorem Rot.pass {n : Nat} {s : Nat × List Int} (h : Rot n s) {sizes : List Nat} {quanta : List Int} (hs : ∀ i, sizes.getD i 0 ≤ 64) (hq : ∀ i, i < n → 64 ≤ quanta.getD i 0 ∧ quanta.getD i 0 ≤ 1000) (hno : allowsR sizes s.1 s.2 = false) : Rot n (passR sizes quanta s) ∧ 64 ≤ (passR sizes quanta s).2.getD (passR sizes quanta s).1 0 := by
  obtain ⟨t, cr⟩ := s
  have ht := h.turn
  have hl := h.len
  have hp := h.pos
  have hw := h.low
  have htp := h.top
  simp only at ht hl hp hw htp
  have ht' : (t + 1) % n < n := Nat.mod_lt _ (by omega)
  have hc1 : ∀ i, i < n → 0 ≤ (if sizes.getD t 0 = 0 then cr.set t 0 else cr).getD i 0 ∧ (if sizes.getD t 0 = 0 then cr.set t 0 else cr).getD i 0 ≤ 63 := by
    intro i hi
    by_cases h0 : sizes.getD t 0 = 0
    · rw [if_pos h0, getD_set (by omega)]
      by_cases e : t = i
      · rw [if_pos e]; omega
      · rw [if_neg e]; exact ⟨hp i hi, hw i hi (fun e' => e e'.symm)⟩
    · rw [if_neg h0]
      refine ⟨hp i hi, ?_⟩
      by_cases e : i = t
      · subst e
        have hz := hs i
        unfold allowsR at hno
        dsimp only at hno
        rw [Bool.and_eq_false_iff, decide_eq_false_iff_not, decide_eq_false_iff_not] at hno
        omega
      · exact hw i hi e
  have hl1 : (if sizes.getD t 0 = 0 then cr.set t 0 else cr).length = n := by split <;> simp [hl]
  obtain ⟨q0, q1⟩ := hq _ ht'
  obtain ⟨x0, x1⟩ := hc1 _ ht'
  unfold passR
  simp only [hl]
  generalize (if sizes.getD t 0 = 0 then cr.set t 0 else cr) = cr1 at *
  refine ⟨⟨ht', by simp [hl1], fun i hi => ?_, fun i hi hne => ?_, ?_⟩, ?_⟩
  · simp only
    rw [getD_set (by omega)]
    split
    · omega
    · exact (hc1 i hi).1
  · simp only at hne ⊢
    rw [getD_set (by omega), if_neg (fun e => hne e.symm)]
    exact (hc1 i hi).2
  · rw [getD_set (by omega), if_pos rfl]; omega
  · rw [getD_set (by omega), if_pos rfl]; omega
theorem turnsR_rot {sizes : List Nat} {quanta : List Int} {n : Nat} (hs : ∀ i, sizes.getD i 0 ≤ 64) (hq : ∀ i, i < n → 64 ≤ quanta.getD i 0 ∧ quanta.getD i 0 ≤ 1000) : ∀ (m : Nat) (s : Nat × List Int), Rot n s → Rot n (turnsR sizes quanta m s)
  | 0, s, h => h
  | m + 1, s, h => by
    unfold turnsR
    cases e : allowsR sizes s.1 s.2 with
    | true => simpa using h
    | false => simpa using turnsR_rot hs hq m _ (h.pass hs hq e).1
/-- Whoever may go goes at its next turn. -/
theorem turnsR_ends {sizes : List Nat} {quanta : List Int} {n : Nat} (hs : ∀ i, sizes.getD i 0 ≤ 64) (hq : ∀ i, i < n → 64 ≤ quanta.getD i 0 ∧ quanta.getD i 0 ≤ 1000) : ∀ (m : Nat) (s : Nat × List Int), Rot n s → (∃ j, 1 ≤ j ∧ j ≤ m ∧ 0 < sizes.getD ((s.1 + j) % n) 0) → allowsR sizes (turnsR sizes quanta m s).1 (turnsR sizes quanta m s).2 = true
  | 0, s, h, ⟨j, h1, h2, _⟩ => by omega
  | m + 1, s, h, ⟨j, h1, h2, h3⟩ => by
    unfold turnsR
    cases e : allowsR sizes s.1 s.2 with
    | true => simpa using e
    | false =>
      simp only [Bool.false_eq_true, if_false]
      obtain ⟨hr, hg⟩ := h.pass hs hq e
      have ht : (passR sizes quanta s).1 = (s.1 + 1) % n := by simp [passR, h.len]
      by_cases e1 : j = 1
      · subst e1
        have ha : allowsR sizes (passR sizes quanta s).1 (passR sizes quanta s).2 = true := by
          have hz := hs ((s.1 + 1) % n)
          unfold allowsR
          rw [ht] at hg ⊢
          simp only [Bool.and_eq_true, decide_eq_true_eq]
          exact ⟨h3, by omega⟩
        rw [turnsR_allows ha]
        exact ha
      · refine turnsR_ends hs hq m _ hr ⟨j - 1, by omega, by omega, ?_⟩
        rw [ht]
        have : ((s.1 + 1) % n + (j - 1)) % n = (s.1 + j) % n := by
          rw [Nat.mod_add_mod]
          congr 1
          omega
        rw [this]
        exact h3
theorem turnsR_found {sizes : List Nat} {quanta : List Int} {n : Nat} (hs : ∀ i, sizes.getD i 0 ≤ 64) (hq : ∀ i, i < n → 64 ≤ quanta.getD i 0 ∧ quanta.getD i 0 ≤ 1000) {s : Nat × List Int} (h : Rot n s) {i : Nat} (hi : i < n) (hz : 0 < sizes.getD i 0) : allowsR sizes (turnsR sizes quanta n s).1 (turnsR sizes quanta n s).2 = true := by
  have ht := h.turn
  refine turnsR_ends hs hq n s h ?_
  by_cases e : s.1 < i
  · exact ⟨i - s.1, by omega, by omega, by rw [show s.1 + (i - s.1) = i by omega, Nat.mod_eq_of_lt hi]; exact hz⟩
  · exact ⟨n + i - s.1, by omega, by omega, by rw [show s.1 + (n + i - s.1) = n + i by omega, Nat.add_mod_left, Nat.mod_eq_of_lt hi]; exact hz⟩

end Go.Proofs.YtojpjaifhjigfabGreatDoor

/-
  DERIVED: THE SHELF's CONTRACTS AT THIS DUMP, IN PLAIN WORDS (tools/lay-plain.mjs out of 'YtojpjaifhjigfabGreatDoorLaysRaw.lean', which tools/lay-shelf.mjs wrote): THE SAME DECLARATIONS UNDER THE SAME NAMES: 'import', 'namespace', 'open', 'def', 'theorem' AND NOTHING ELSE: no command of the shelf's: FOR A HAND-IN. Each laying: the table of numbers ('.._ren') and one theorem, a field a fact of the dump's own or the kernel's comparison; each contract: ONE APPLICATION.
-/
namespace Go.Proofs
open Go.Shelf
def Tryz.layClone_ren : Go.Shelf.Ren := ⟨fun | 316 => 66 | n => n, fun | 9 => 9 | 3 => 3 | 4 => 4 | 37 => 113 | 0 => 0 | 127 => 150 | 5 => 5 | n => n, fun | n => n⟩
theorem Tryz.layClone : Go.Proofs.LaysM.n316 Tryz.prog Tryz.layClone_ren := {
  mixed := by kernel_rfl
  f316 := Tryz.func66.trans (congrArg some (by kernel_rfl))
  t0 := Tryz.underlying0
  a0 := Tryz.isAgg0
  z0 := Tryz.sizeOf0
  v0 := Tryz.zeroValue0
  t3 := Tryz.underlying3
  a3 := Tryz.isAgg3
  z3 := Tryz.sizeOf3
  v3 := Tryz.zeroValue3
  t4 := Tryz.underlying4
  a4 := Tryz.isAgg4
  z4 := Tryz.sizeOf4
  v4 := Tryz.zeroValue4
  t9 := Tryz.underlying9
  a9 := Tryz.isAgg9
  z9 := Tryz.sizeOf9
  v9 := Tryz.zeroValue9
  t37 := Tryz.underlying113
  a37 := Tryz.isAgg113
  z37 := Tryz.sizeOf113
  v37 := Tryz.zeroValue113
  t127 := Tryz.underlying150
  a127 := Tryz.isAgg150
  z127 := Tryz.sizeOf150
  v127 := Tryz.zeroValue150
  t5 := Tryz.underlying5
  a5 := Tryz.isAgg5
  z5 := Tryz.sizeOf5
  v5 := Tryz.zeroValue5
  i0 := by kernel_rfl
  i3 := by kernel_rfl
  i4 := by kernel_rfl
  i5 := by kernel_rfl
  i9 := by kernel_rfl
  i37 := by kernel_rfl
  i127 := by kernel_rfl }
def Tryz.layMul_ren : Go.Shelf.Ren := ⟨fun | 212 => 67 | 263 => 88 | 264 => 89 | n => n, fun | 46 => 117 | 51 => 151 | 146 => 152 | 53 => 154 | 148 => 155 | n => n, fun | n => n⟩
theorem Tryz.layMul : Go.Proofs.Lays.n212 Tryz.prog Tryz.layMul_ren := {
  mixed := by kernel_rfl
  f212 := Tryz.func67.trans (congrArg some (by kernel_rfl))
  f263 := Tryz.func88.trans (congrArg some (by kernel_rfl))
  f264 := Tryz.func89.trans (congrArg some (by kernel_rfl))
  t46 := Tryz.underlying117
  a46 := Tryz.isAgg117
  z46 := Tryz.sizeOf117
  v46 := Tryz.zeroValue117
  t51 := Tryz.underlying151
  a51 := Tryz.isAgg151
  z51 := Tryz.sizeOf151
  v51 := Tryz.zeroValue151
  t53 := Tryz.underlying154
  a53 := Tryz.isAgg154
  z53 := Tryz.sizeOf154
  v53 := Tryz.zeroValue154
  t146 := Tryz.underlying152
  a146 := Tryz.isAgg152
  z146 := Tryz.sizeOf152
  v146 := Tryz.zeroValue152
  t148 := Tryz.underlying155
  a148 := Tryz.isAgg155
  z148 := Tryz.sizeOf155
  v148 := Tryz.zeroValue155 }
def Tryz.layKeys_ren : Go.Shelf.Ren := ⟨fun | 7 => 36 | 10 => 58 | n => n, fun | 23 => 27 | 26 => 9 | 3 => 3 | 28 => 90 | 0 => 0 | 27 => 89 | 33 => 70 | 4 => 4 | n => n, fun | n => n⟩
theorem Tryz.layKeys : Go.Proofs.SlLaysZ.n7 Tryz.prog Tryz.layKeys_ren := {
  mixed := by kernel_rfl
  f7 := ⟨Tryz.f36.name, by decide, Tryz.func36.trans (congrArg some (by kernel_rfl))⟩
  f10 := ⟨Tryz.f58.name, by decide, Tryz.func58.trans (congrArg some (by kernel_rfl))⟩
  t0 := Tryz.underlying0
  a0 := Tryz.isAgg0
  z0 := Tryz.sizeOf0
  v0 := Tryz.zeroValue0
  t4 := Tryz.underlying4
  a4 := Tryz.isAgg4
  z4 := Tryz.sizeOf4
  v4 := Tryz.zeroValue4
  t23 := Tryz.underlying27
  a23 := Tryz.isAgg27
  z23 := Tryz.sizeOf27
  v23 := Tryz.zeroValue27
  t26 := Tryz.underlying9
  a26 := Tryz.isAgg9
  z26 := Tryz.sizeOf9
  v26 := Tryz.zeroValue9
  t27 := Tryz.underlying89
  a27 := Tryz.isAgg89
  z27 := Tryz.sizeOf89
  v27 := Tryz.zeroValue89
  t28 := Tryz.underlying90
  a28 := Tryz.isAgg90
  z28 := Tryz.sizeOf90
  v28 := Tryz.zeroValue90
  t33 := Tryz.underlying70
  a33 := Tryz.isAgg70
  z33 := Tryz.sizeOf70
  v33 := Tryz.zeroValue70 }
def Tryz.laySorted_ren : Go.Shelf.Ren := ⟨fun | 6 => 35 | 8 => 56 | 9 => 57 | 11 => 77 | 13 => 79 | 12 => 78 | 23 => 106 | 24 => 107 | 14 => 97 | 15 => 98 | 16 => 99 | 17 => 100 | 18 => 101 | 19 => 102 | 20 => 103 | 21 => 104 | 22 => 105 | 25 => 116 | 26 => 117 | 27 => 118 | 28 => 119 | 29 => 120 | 30 => 121 | 31 => 128 | n => n, fun | 26 => 9 | 28 => 90 | 24 => 51 | 0 => 0 | 3 => 3 | 37 => 117 | 48 => 151 | 50 => 154 | 4 => 4 | 40 => 164 | 39 => 163 | 45 => 169 | 5 => 5 | 9 => 9 | 51 => 182 | 55 => 186 | 57 => 193 | 58 => 194 | 33 => 70 | n => n, fun | n => n⟩
theorem Tryz.laySorted : Go.Proofs.SlLaysZ.n6 Tryz.prog Tryz.laySorted_ren := {
  mixed := by kernel_rfl
  f6 := ⟨Tryz.f35.name, by decide, Tryz.func35.trans (congrArg some (by kernel_rfl))⟩
  f8 := ⟨Tryz.f56.name, by decide, Tryz.func56.trans (congrArg some (by kernel_rfl))⟩
  f11 := ⟨Tryz.f77.name, by decide, Tryz.func77.trans (congrArg some (by kernel_rfl))⟩
  t0 := Tryz.underlying0
  a0 := Tryz.isAgg0
  z0 := Tryz.sizeOf0
  v0 := Tryz.zeroValue0
  t24 := Tryz.underlying51
  a24 := Tryz.isAgg51
  z24 := Tryz.sizeOf51
  v24 := Tryz.zeroValue51
  t26 := Tryz.underlying9
  a26 := Tryz.isAgg9
  z26 := Tryz.sizeOf9
  v26 := Tryz.zeroValue9
  t28 := Tryz.underlying90
  a28 := Tryz.isAgg90
  z28 := Tryz.sizeOf90
  v28 := Tryz.zeroValue90
  i26 := by kernel_rfl }
def Tryz.laySort_ren : Go.Shelf.Ren := ⟨fun | 6 => 57 | 8 => 79 | 9 => 78 | 19 => 106 | 20 => 107 | 21 => 97 | 22 => 98 | 23 => 99 | 24 => 100 | 25 => 101 | 26 => 102 | 27 => 103 | 28 => 104 | 29 => 105 | 36 => 116 | 31 => 117 | 32 => 118 | 37 => 119 | 38 => 120 | 39 => 121 | 41 => 128 | n => n, fun | 27 => 51 | 29 => 9 | 3 => 3 | 32 => 117 | 26 => 51 | 0 => 0 | 44 => 151 | 46 => 154 | 4 => 4 | 36 => 164 | 35 => 163 | 41 => 169 | 5 => 5 | 9 => 9 | 53 => 182 | 57 => 186 | 63 => 193 | 64 => 194 | n => n, fun | n => n⟩
theorem Tryz.laySort : Go.Proofs.SlLaysM.n6 Tryz.prog Tryz.laySort_ren := {
  mixed := by kernel_rfl
  f6 := ⟨Tryz.f57.name, by decide, Tryz.func57.trans (congrArg some (by kernel_rfl))⟩
  f8 := Tryz.func79.trans (congrArg some (by kernel_rfl))
  f9 := ⟨Tryz.f78.name, by decide, Tryz.func78.trans (congrArg some (by kernel_rfl))⟩
  f19 := Tryz.func106.trans (congrArg some (by kernel_rfl))
  f20 := Tryz.func107.trans (congrArg some (by kernel_rfl))
  f21 := ⟨Tryz.f97.name, by decide, Tryz.func97.trans (congrArg some (by kernel_rfl))⟩
  f22 := ⟨Tryz.f98.name, by decide, Tryz.func98.trans (congrArg some (by kernel_rfl))⟩
  f23 := ⟨Tryz.f99.name, by decide, Tryz.func99.trans (congrArg some (by kernel_rfl))⟩
  f24 := ⟨Tryz.f100.name, by decide, Tryz.func100.trans (congrArg some (by kernel_rfl))⟩
  f25 := ⟨Tryz.f101.name, by decide, Tryz.func101.trans (congrArg some (by kernel_rfl))⟩
  f26 := ⟨Tryz.f102.name, by decide, Tryz.func102.trans (congrArg some (by kernel_rfl))⟩
  f27 := ⟨Tryz.f103.name, by decide, Tryz.func103.trans (congrArg some (by kernel_rfl))⟩
  f28 := ⟨Tryz.f104.name, by decide, Tryz.func104.trans (congrArg some (by kernel_rfl))⟩
  f29 := ⟨Tryz.f105.name, by decide, Tryz.func105.trans (congrArg some (by kernel_rfl))⟩
  f31 := Tryz.func117.trans (congrArg some (by kernel_rfl))
  f32 := Tryz.func118.trans (congrArg some (by kernel_rfl))
  f36 := ⟨Tryz.f116.name, by decide, Tryz.func116.trans (congrArg some (by kernel_rfl))⟩
  f37 := ⟨Tryz.f119.name, by decide, Tryz.func119.trans (congrArg some (by kernel_rfl))⟩
  f38 := ⟨Tryz.f120.name, by decide, Tryz.func120.trans (congrArg some (by kernel_rfl))⟩
  f39 := ⟨Tryz.f121.name, by decide, Tryz.func121.trans (congrArg some (by kernel_rfl))⟩
  f41 := ⟨Tryz.f128.name, by decide, Tryz.func128.trans (congrArg some (by kernel_rfl))⟩
  t0 := Tryz.underlying0
  a0 := Tryz.isAgg0
  z0 := Tryz.sizeOf0
  v0 := Tryz.zeroValue0
  t3 := Tryz.underlying3
  a3 := Tryz.isAgg3
  z3 := Tryz.sizeOf3
  v3 := Tryz.zeroValue3
  t4 := Tryz.underlying4
  a4 := Tryz.isAgg4
  z4 := Tryz.sizeOf4
  v4 := Tryz.zeroValue4
  t5 := Tryz.underlying5
  a5 := Tryz.isAgg5
  z5 := Tryz.sizeOf5
  v5 := Tryz.zeroValue5
  t9 := Tryz.underlying9
  a9 := Tryz.isAgg9
  z9 := Tryz.sizeOf9
  v9 := Tryz.zeroValue9
  t26 := Tryz.underlying51
  a26 := Tryz.isAgg51
  z26 := Tryz.sizeOf51
  v26 := Tryz.zeroValue51
  t27 := Tryz.underlying51
  a27 := Tryz.isAgg51
  z27 := Tryz.sizeOf51
  v27 := Tryz.zeroValue51
  t29 := Tryz.underlying9
  a29 := Tryz.isAgg9
  z29 := Tryz.sizeOf9
  v29 := Tryz.zeroValue9
  t32 := Tryz.underlying117
  a32 := Tryz.isAgg117
  z32 := Tryz.sizeOf117
  v32 := Tryz.zeroValue117
  t35 := Tryz.underlying163
  a35 := Tryz.isAgg163
  z35 := Tryz.sizeOf163
  v35 := Tryz.zeroValue163
  t36 := Tryz.underlying164
  a36 := Tryz.isAgg164
  z36 := Tryz.sizeOf164
  v36 := Tryz.zeroValue164
  t41 := Tryz.underlying169
  a41 := Tryz.isAgg169
  z41 := Tryz.sizeOf169
  v41 := Tryz.zeroValue169
  t44 := Tryz.underlying151
  a44 := Tryz.isAgg151
  z44 := Tryz.sizeOf151
  v44 := Tryz.zeroValue151
  t46 := Tryz.underlying154
  a46 := Tryz.isAgg154
  z46 := Tryz.sizeOf154
  v46 := Tryz.zeroValue154
  t53 := Tryz.underlying182
  a53 := Tryz.isAgg182
  z53 := Tryz.sizeOf182
  v53 := Tryz.zeroValue182
  t57 := Tryz.underlying186
  a57 := Tryz.isAgg186
  z57 := Tryz.sizeOf186
  v57 := Tryz.zeroValue186
  t63 := Tryz.underlying193
  a63 := Tryz.isAgg193
  z63 := Tryz.sizeOf193
  v63 := Tryz.zeroValue193
  t64 := Tryz.underlying194
  a64 := Tryz.isAgg194
  z64 := Tryz.sizeOf194
  v64 := Tryz.zeroValue194 }
def Tryz.layDelete_ren : Go.Shelf.Ren := ⟨fun | 10 => 122 | 6 => 129 | n => n, fun | 22 => 22 | 23 => 3 | 25 => 142 | 3 => 3 | 4 => 4 | 0 => 0 | n => n, fun | n => n⟩
theorem Tryz.layDelete : Go.Proofs.SlLaysH.n10 Tryz.prog Tryz.layDelete_ren := {
  mixed := by kernel_rfl
  f6 := ⟨Tryz.f129.name, by decide, Tryz.func129.trans (congrArg some (by kernel_rfl))⟩
  f10 := ⟨Tryz.f122.name, by decide, Tryz.func122.trans (congrArg some (by kernel_rfl))⟩
  t0 := Tryz.underlying0
  a0 := Tryz.isAgg0
  z0 := Tryz.sizeOf0
  v0 := Tryz.zeroValue0
  t3 := Tryz.underlying3
  a3 := Tryz.isAgg3
  z3 := Tryz.sizeOf3
  v3 := Tryz.zeroValue3
  t4 := Tryz.underlying4
  a4 := Tryz.isAgg4
  z4 := Tryz.sizeOf4
  v4 := Tryz.zeroValue4
  t22 := Tryz.underlying22
  a22 := Tryz.isAgg22
  z22 := Tryz.sizeOf22
  v22 := Tryz.zeroValue22
  a23 := Tryz.isAgg3
  z23 := Tryz.sizeOf3
  t25 := Tryz.underlying142
  a25 := Tryz.isAgg142
  z25 := Tryz.sizeOf142
  v25 := Tryz.zeroValue142 }
def Tryz.layIndex_ren : Go.Shelf.Ren := ⟨fun | 6 => 129 | n => n, fun | 22 => 22 | 23 => 3 | 25 => 142 | 3 => 3 | 0 => 0 | 4 => 4 | n => n, fun | n => n⟩
theorem Tryz.layIndex : Go.Proofs.SlLaysH.n6 Tryz.prog Tryz.layIndex_ren := {
  mixed := by kernel_rfl
  f6 := ⟨Tryz.f129.name, by decide, Tryz.func129.trans (congrArg some (by kernel_rfl))⟩
  t0 := Tryz.underlying0
  a0 := Tryz.isAgg0
  z0 := Tryz.sizeOf0
  v0 := Tryz.zeroValue0
  t3 := Tryz.underlying3
  a3 := Tryz.isAgg3
  z3 := Tryz.sizeOf3
  v3 := Tryz.zeroValue3
  t4 := Tryz.underlying4
  a4 := Tryz.isAgg4
  z4 := Tryz.sizeOf4
  v4 := Tryz.zeroValue4
  t22 := Tryz.underlying22
  a22 := Tryz.isAgg22
  z22 := Tryz.sizeOf22
  v22 := Tryz.zeroValue22
  a23 := Tryz.isAgg3
  z23 := Tryz.sizeOf3
  t25 := Tryz.underlying142
  a25 := Tryz.isAgg142
  z25 := Tryz.sizeOf142
  v25 := Tryz.zeroValue142 }
end Go.Proofs
