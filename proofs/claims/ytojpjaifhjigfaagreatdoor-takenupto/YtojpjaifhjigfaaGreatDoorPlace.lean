/- place, Status: the batch of an id. -/
import Derived.Test.YtojpjaifhjigfaaGreatDoorWaiting
import Derived.Laws.ResultCell
namespace Go.Proofs.YtojpjaifhjigfaaGreatDoor
open Go.RowKit Go.Maps

/-- Where a batch of this id lies: -1, if none does. -/
def findId (bs : List Bat) (id : List UInt8) : Int := match bs.findIdx? (fun b => b.id == id) with | some i => i | none => -1

theorem infoPBatch : (Tryz.prog.info? 155).map (·.size) = some 6 := by kernel_rfl

set_option maxHeartbeats 400000 in
theorem place1_any (b : Bat) (gi : Nat) (id : List UInt8) (w : World) (hi : w.cell? ⟨gi, 0, none⟩ = some (encStr id)) :
    Calls Tryz.prog 120 #[.agg b.cells.toArray, .pointer (some ⟨gi, 0, none⟩)] w fun e w' => e = .returned (.bool (b.id == id)) ∧ Below w.heap.size w w' := by
  have hil := World.block_lt_of_cell? w _ hi
  unfold Bat.cells
  go_enter Tryz.func120, Tryz.ntmps120
  go_wp2
  go_ret
  exact ⟨rfl, (Below.refl _ _).alloc (Nat.le_refl _) _⟩

set_option maxRecDepth 100000 in
set_option maxHeartbeats 1000000 in
theorem indexFunc_any (L : Labs) (l : Lab) (ta : Option Addr) (tc : Nat) (bs : List Bat) (gi : Nat) (id : List UInt8) (w : World) (h : RowAt w L l 155 6 (.slice ta bs.length tc) bs.length (bs.flatMap Bat.cells)) (hb : bs.length ≤ 120) (hi : w.cell? ⟨gi, 0, none⟩ = some (encStr id)) :
    Calls Tryz.prog 119 #[.slice ta bs.length tc, .func (.func 120) #[] #[.pointer (some ⟨gi, 0, none⟩)]] w fun e w' => e = .returned (.int .i64 (findId bs id)) ∧ Below w.heap.size w w' := by
  have hil := World.block_lt_of_cell? w _ hi
  have HH := hide h
  have HI := hide hi
  generalize hn : bs.length = n at *
  have Hn := hide hn
  clear h hi hn
  go_enter Tryz.func119, Tryz.ntmps119
  go_wp2_with fail
  go_loopw [8] (fun i wr => ∃ k : Nat, k ≤ n ∧ i = .int .i64 k ∧ (∀ j b, j < k → bs[j]? = some b → (b.id == id) = false) ∧ Below w.heap.size w wr) (fun i _ => n - (intOf i).toNat)
  case atStart => exact ⟨0, Nat.zero_le _, rfl, fun j b hj => by omega, Below.refl _ _⟩
  case round =>
    obtain ⟨k, hk, rfl, hno, hnx⟩ := hrel
    have Hno := hide hno
    have Hnx := hide hnx
    clear hno hnx
    by_cases hlt : k < n
    · have hltI : (k : Int) < (n : Int) := by omega
      obtain ⟨gt, rfl, hgt, _, hct, _⟩ := HH.out.head (by omega)
      obtain ⟨b, hb'⟩ : ∃ b, bs[k]? = some b := ⟨_, List.getElem?_eq_getElem (by rw [Hn.out]; exact hlt)⟩
      have hR : wr.rangeAt gt (k * 6) b.cells := fun j v hv => by
        rw [Hnx.out.cell (p := ⟨gt, _, none⟩) hgt]
        exact hct _ _ (flat_cell Bat.cells 6 Bat.cells_length hb' (by have := (List.getElem?_eq_some_iff.1 hv).1; rw [Bat.cells_length] at this; exact this) hv)
      have HR := hide hR
      have Hb := hide hb'
      clear hct hR hb'
      go_wp2_with (first
        | (refine wpList_load_mid rfl 155 _ rfl gt (k * 6) rfl b.cells _ HR.out Tryz.underlying155 rfl infoPBatch ?_)
        | fail)
      refine (place1_any b gi id _ (by rw [Hnx.out.cell (p := ⟨gi, 0, none⟩) hil]; exact HI.out)).mono ?_
      rintro e w2 ⟨rfl, hb2⟩
      have Hb2 : Hid (Below w.heap.size w w2) := Hnx.out.trans (hb2.mono Hnx.out.size)
      clear hb2
      cases hid : (b.id == id)
      · have Hid' := hide hid
        clear hid
        go_wp2_with fail
        go_roundw
        case rel =>
          refine ⟨k + 1, by omega, by go_num, fun j b' hj hj' => ?_, Hb2.out⟩
          rcases Nat.lt_succ_iff_lt_or_eq.1 hj with h1 | h1
          · exact Hno.out j b' h1 hj'
          · subst h1
            rw [Hb.out] at hj'
            cases hj'
            exact Hid'.out
        case measure => simp [intOf]; omega
      · have Hid' := hide hid
        clear hid
        go_wp2_with fail
        go_ret
        refine ⟨ret_int ?_, Hb2.out⟩
        have : bs.findIdx? (fun b => b.id == id) = some k := by
          rw [List.findIdx?_eq_some_iff_getElem]
          refine ⟨by rw [Hn.out]; exact hlt, ?_, fun j hj => ?_⟩
          · have := List.getElem?_eq_some_iff.1 Hb.out
            obtain ⟨h1, h2⟩ := this
            simp only [h2]; exact Hid'.out
          · simp [Hno.out j _ hj (List.getElem?_eq_getElem (by rw [Hn.out]; omega))]
        simp [findId, this]
    · go_wp2_with fail
      go_ret
      refine ⟨ret_int ?_, Hnx.out⟩
      have : bs.findIdx? (fun b => b.id == id) = none := by
        rw [List.findIdx?_eq_none_iff]
        intro b hb
        obtain ⟨j, hj, rfl⟩ := List.getElem_of_mem hb
        exact Hno.out j _ (by rw [Hn.out] at hj; omega) (List.getElem?_eq_getElem hj)
      simp [findId, this]

set_option maxHeartbeats 400000 in
theorem pPlace_any (L : Labs) (who g : Nat) (M : Ag) (id : List UInt8) (w : World) (h : AgentAt w L who g M) (hb : M.bs.length ≤ 120) :
    Calls Tryz.prog 75 #[.pointer (some ⟨g, 0, none⟩), encStr id] w fun e w' => e = .returned (.int .i64 (findId M.bs id)) ∧ Below w.heap.size w w' := by
  obtain ⟨bq, bm, cn, tv, dv, nv, rv, ov, h⟩ := h
  obtain ⟨ta, tc, rfl, _⟩ := h.tk.shape
  have c0 : w.cell? ⟨g, 0, none⟩ = some (.slice ta M.bs.length tc) := h.blk.1.cell 0
  have hgl := h.blk.1.lt
  have hmf : ∀ (fn : Fn) (first cap : Array Value) (w : World), (Instr.makeFunc fn first cap).run Tryz.prog w = .ok (.func fn first cap) w := fun _ _ _ _ => rfl
  have HT := hide h.tk
  clear h
  unfold encStr
  go_enter Tryz.func75, Tryz.ntmps75
  go_wp2_with fail
  refine (indexFunc_any L _ ta tc M.bs w.heap.size id _ (HT.out.keep (p := fun _ => False) (Step.alloc L w _) (fun h => h)) hb (by rw [World.cell?_alloc_new]; rfl)).mono ?_
  rintro e w' ⟨rfl, hb2⟩
  have Hb : Hid (Below w.heap.size w w') := ((Below.refl _ _).alloc (Nat.le_refl _) _).trans (hb2.mono (by simp))
  clear hb2
  go_wp2_with fail
  go_ret
  exact ⟨rfl, Hb.out⟩

theorem findId_cases (bs : List Bat) (id : List UInt8) : (findId bs id = -1 ∧ ∀ b ∈ bs, (b.id == id) = false) ∨ ∃ (i : Nat) (b : Bat), findId bs id = i ∧ bs[i]? = some b ∧ (b.id == id) = true := by
  unfold findId
  cases h : bs.findIdx? (fun b => b.id == id) with
  | none => exact Or.inl ⟨rfl, by rw [List.findIdx?_eq_none_iff] at h; exact h⟩
  | some i =>
    rw [List.findIdx?_eq_some_iff_getElem] at h
    obtain ⟨h1, h2, _⟩ := h
    exact Or.inr ⟨i, _, rfl, List.getElem?_eq_getElem h1, h2⟩

/-- Two results, the first of which lies in memory. -/
theorem results_cell_and {P : Program} {fn : Func} {p u : Tmp} {ty : TypeId} {tmps : Array Value} {w : World} {a : Addr} {v x : Value} (h : fn.results = #[.cell p ty, .tmp u]) (hp : tmps.getD p undef = .pointer (some a))
    (hl : (loadVar ty a).run P w = .ok v w) (hx : tmps.getD u undef = x) : (results fn tmps).run P w = .ok (.tuple #[v, x]) w := by
  rw [results_cell_tmp h, hp, hx]
  simp [asAddr, hl, Result.andThen]

/-- What has become of a batch. -/
def stat (b : Bat) : Value := .agg #[.int .i64 b.st, .int .i64 b.fl]
def noStat : Value := .agg #[.int .i64 0, .int .i64 0]
theorem infoStatus : (Tryz.prog.info? 82).map (·.size) = some 2 := by kernel_rfl

set_option maxRecDepth 100000 in
set_option maxHeartbeats 1000000 in
theorem status_none (A : Nat → Addr) (L : Labs) (who g : Nat) (M : Ag) (id : List UInt8) (w : World) (hS : Sents.Holds w 260 gl 11 A) (h : AgentAt w L who g M) (hb : M.bs.length ≤ 120) (hid : findId M.bs id = -1) :
    Calls Tryz.prog 34 #[.pointer (some ⟨g, 0, none⟩), encStr id] w fun e w' => e = .returned (.tuple #[noStat, ev A 4]) ∧ Below w.heap.size w w' := by
  have hc := hS.cell 4 (by decide)
  simp only [gl, List.getD_cons_zero, List.getD_cons_succ] at hc
  have hcl := World.block_lt_of_cell? w _ hc
  have H := fun o => hide (pPlace_any L who g M id (w.alloc o) (h.keep (p := fun _ => False) (Step.alloc L w _) (fun _ h => h)) hb)
  rw [hid] at H
  clear h hS hid
  go_enter Tryz.func34, Tryz.ntmps34
  go_wp2_with fail
  refine (H _).out.mono ?_
  rintro e w1 ⟨rfl, hb1⟩
  have hB1 : Below w.heap.size w w1 := ((Below.refl _ _).alloc (Nat.le_refl _) _).trans (hb1.mono (by simp))
  have hK1 : Blk w1 w.heap.size #[.int .i64 0, .int .i64 0] 82 := (Blk.new w _ _).below hb1 (by simp)
  have d0 : w1.cell? ⟨w.heap.size, 0, none⟩ = some (.int .i64 0) := hK1.cell 0
  have d1 : w1.cell? ⟨w.heap.size, 1, none⟩ = some (.int .i64 0) := hK1.cell 1
  have f0 := hK1.frozen 0
  have f1 := hK1.frozen 1
  have hc1 : w1.cell? ⟨_, 0, none⟩ = some (ev A 4) := (hB1.cell (p := ⟨_, 0, none⟩) hcl).trans hc
  have HB1 := hide hB1
  have HK1 := hide hK1
  have hlt1 := hK1.lt
  clear hb1 hB1 hK1 hc
  go_wp2_with fail
  go_region
  all_goals
    go_wp2_with fail
    have hK2 := ((HK1.out.set 0 (.int .i64 0)).set 1 (.int .i64 0)).drewN 1
    refine bodyPost_ret (v := .tuple #[noStat, ev A 4]) (results_cell_and Tryz.results34 rfl (run_loadVar_mid _ _ 0 82 [.int .i64 0, .int .i64 0] _ (hK2.range 0 _ rfl) Tryz.underlying82 rfl infoStatus) rfl) rfl ⟨rfl, ?_⟩
    exact ((HB1.out.setCell (Nat.le_refl _) _).setCell (Nat.le_refl _) _).drew

set_option maxRecDepth 100000 in
set_option maxHeartbeats 1000000 in
theorem status_some (L : Labs) (who g : Nat) (M : Ag) (id : List UInt8) (i : Nat) (b : Bat) (w : World) (h : AgentAt w L who g M) (hb : M.bs.length ≤ 120) (hid : findId M.bs id = i) (hbi : M.bs[i]? = some b) :
    Calls Tryz.prog 34 #[.pointer (some ⟨g, 0, none⟩), encStr id] w fun e w' => e = .returned (.tuple #[stat b, .nilIface]) ∧ Below w.heap.size w w' := by
  have H := fun o => hide (pPlace_any L who g M id (w.alloc o) (h.keep (p := fun _ => False) (Step.alloc L w _) (fun _ h => h)) hb)
  rw [hid] at H
  obtain ⟨bq, bm, cn, tv, dv, nv, rv, ov, h⟩ := h
  obtain ⟨ta, tc, rfl, _⟩ := h.tk.shape
  have hil : i < M.bs.length := (List.getElem?_eq_some_iff.1 hbi).1
  obtain ⟨gt, rfl, hgt, _, hct, _⟩ := h.tk.head (by omega)
  have c0 : w.cell? ⟨g, 0, none⟩ = some (.slice (some ⟨gt, 0, none⟩) M.bs.length tc) := h.blk.1.cell 0
  have hgl := h.blk.1.lt
  have c4 : w.cell? ⟨gt, i * 6 + 4, none⟩ = some (.int .i64 b.st) := hct _ _ (flat_cell Bat.cells 6 Bat.cells_length hbi (by omega) rfl)
  have c5 : w.cell? ⟨gt, i * 6 + 5, none⟩ = some (.int .i64 b.fl) := hct _ _ (flat_cell Bat.cells 6 Bat.cells_length hbi (by omega) rfl)
  have hilI : (i : Int) < (M.bs.length : Int) := by omega
  have hi1 : ¬ ((i : Int) = -1) := by omega
  have C0 := hide c0
  have C4 := hide c4
  have C5 := hide c5
  clear h hid hct c0 c4 c5
  go_enter Tryz.func34, Tryz.ntmps34
  go_wp2_with fail
  refine (H _).out.mono ?_
  rintro e w1 ⟨rfl, hb1⟩
  have hB1 : Below w.heap.size w w1 := ((Below.refl _ _).alloc (Nat.le_refl _) _).trans (hb1.mono (by simp))
  have hK1 : Blk w1 w.heap.size #[.int .i64 0, .int .i64 0] 82 := (Blk.new w _ _).below hb1 (by simp)
  have d0 : w1.cell? ⟨g, 0, none⟩ = some (.slice (some ⟨gt, 0, none⟩) M.bs.length tc) := (hB1.cell (p := ⟨g, 0, none⟩) hgl).trans C0.out
  have d4 : w1.cell? ⟨gt, i * 6 + 4, none⟩ = some (.int .i64 b.st) := (hB1.cell (p := ⟨gt, _, none⟩) hgt).trans C4.out
  have d5 : w1.cell? ⟨gt, i * 6 + 4 + 1, none⟩ = some (.int .i64 b.fl) := (hB1.cell (p := ⟨gt, _, none⟩) hgt).trans C5.out
  have k0 : w1.cell? ⟨w.heap.size, 0, none⟩ = some (.int .i64 0) := hK1.cell 0
  have k1 : w1.cell? ⟨w.heap.size, 1, none⟩ = some (.int .i64 0) := hK1.cell 1
  have f0 := hK1.frozen 0
  have f1 := hK1.frozen 1
  have HB1 := hide hB1
  have HK1 := hide hK1
  have hlt1 := hK1.lt
  clear hb1 hB1 hK1
  go_wp2_with fail
  have hK2 := (HK1.out.set 0 (.int .i64 b.st)).set 1 (.int .i64 b.fl)
  refine bodyPost_ret (v := .tuple #[stat b, .nilIface]) (results_cell_and Tryz.results34 rfl (run_loadVar_mid _ _ 0 82 [.int .i64 b.st, .int .i64 b.fl] _ (hK2.range 0 _ rfl) Tryz.underlying82 rfl infoStatus) rfl) rfl ⟨rfl, ?_⟩
  exact (HB1.out.setCell (Nat.le_refl _) _).setCell (Nat.le_refl _) _
end Go.Proofs.YtojpjaifhjigfaaGreatDoor
