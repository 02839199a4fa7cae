/- Steps of the proof (several texts in one): AllNew, AllOpened, AllPick. -/
import Derived.Test.YtojpjaifhjigfaaGreatDoorMAllupto31

/- (*World).opened of a configuration that is one: a new pair is among the pairs. -/
namespace Go.Proofs.YtojpjaifhjigfaaGreatDoor
open Go.RowKit Go.Maps
attribute [local go_sem] run_store_float

theorem infoPairP : (Tryz.prog.info? 97).map (fun i => (i.zero, i.size, i.bytes)) = some (some (.pointer none), 1, 8) := by kernel_rfl
theorem infoStand : (Tryz.prog.info? 105).map (fun i => (i.zero, i.size, i.bytes)) = some (some (.agg #[.int .i64 0, .slice none 0 0, .slice none 0 0]), 3, 56) := by kernel_rfl

/-- The cells of a pair. -/
abbrev pairCells (gx gy : Nat) (c : Cfg) (m : Option Nat) (sv lg : Value) : Array Value :=
  #[.pointer (some ⟨gx, 0, none⟩), .pointer (some ⟨gy, 0, none⟩), .int .i64 c.d, .map m, .int .i64 c.q, .int .i64 c.at', .int .i64 c.ba, .int .i64 c.ca, .int .i64 c.ti, .int .i64 c.wi, .int .i64 c.le, .float .f64 c.th, .int .i64 c.op, sv, lg]

/-- What stays: all old blocks but gw and one row. -/
structure Kept (w w' : World) (gw : Nat) (row : Option Nat) : Prop where
  os : w'.os = w.os
  tape : w'.tape = w.tape
  output : w'.output = w.output
  size : w.heap.size ≤ w'.heap.size
  block : ∀ k, k < w.heap.size → k ≠ gw → some k ≠ row → w'.heap[k]? = w.heap[k]?

/-- The cells of the first stand. -/
abbrev stand0 : List Value := [.int .i64 0, .slice none 0 0, .slice none 0 0]
/-- Pair gp, its program's agent gx and its document's agent, which has taken nothing; its first stand: in blocks from B on, ahead of C. -/
def PairRaw (w : World) (B C gp gx gs scap : Nat) (c : Cfg) (m : Option Nat) (D : DataW Unit) : Prop := ∃ gy ss L0, B ≤ gp ∧ gp < C ∧ Blk w gp (pairCells gx gy c m (.slice (some ⟨gs, 0, none⟩) 1 scap) (.string ⟨#[]⟩)) 102 ∧
  RefAt w L0 0 gy (Rf.new c m D ss) ∧ (∀ k l, L0 k = some l → B ≤ k ∧ k < C ∧ k ≠ gp ∧ k ≠ gs) ∧ ss.Perm (strKeys D) ∧ ss.Pairwise (fun a b => a ≤ b) ∧ w.ownsRow B 105 3 (.slice (some ⟨gs, 0, none⟩) 1 scap) 1 stand0 ∧ gs < C ∧ gs ≠ gp

/-- A pair that was just made: no stand yet, an empty log. -/
def PairNew (w w' : World) (gp gx : Nat) (c : Cfg) (m : Option Nat) (D : DataW Unit) : Prop := ∃ gy ss L0, w.heap.size ≤ gp ∧ Blk w' gp (pairCells gx gy c m (.slice none 0 0) (.string ⟨#[]⟩)) 102 ∧
  RefAt w' L0 0 gy (Rf.new c m D ss) ∧ (∀ k l, L0 k = some l → w.heap.size ≤ k ∧ k < w'.heap.size ∧ k ≠ gp) ∧ ss.Perm (strKeys D) ∧ ss.Pairwise (fun a b => a ≤ b) ∧ Below w.heap.size w w'

theorem pairRaw_after' {w w9 : World} {B C gp gx gs scap gw : Nat} {c : Cfg} {m : Option Nat} {D : DataW Unit} {o : Obj} {pa : Option Addr} {k pk : Nat} (h : PairRaw w B C gp gx gs scap c m D) (hg : (w.alloc o).grownBy w9 (Value.ownBlock (.slice pa k pk)))
    (hr : ∀ q, (Value.slice pa k pk).ownBlock = some q → q < B) (hB : gw < B) (i : Nat) (u : Value) : PairRaw (w9.setCell ⟨gw, i, none⟩ u) B C gp gx gs scap c m D := by
  obtain ⟨gy, ss, L0, h1, h2, h3, h4, h5, h6, h7, h8, h9, h10⟩ := h
  have hn : ∀ q, q < B → L0 q = none := fun q hq => by
    cases e : L0 q with
    | none => rfl
    | some l => have := (h5 q l e).1; omega
  have s : Step (fun l => l = none) L0 w L0 (w9.setCell ⟨gw, i, none⟩ u) := (Step.alloc L0 w o).trans ((Step.of_grown hg (fun j hj => hn j (hr j hj)) (fun _ _ => rfl)).trans (Step.setCell L0 w9 ⟨gw, i, none⟩ u (hn gw hB)))
  refine ⟨gy, ss, L0, h1, h2, ?_, h4.keep s (fun q e => by cases e), h5, h6, h7, ownsRow_same h8 (fun q hq => ?_) (Nat.le_refl _), h9, h10⟩
  · have hb1 := h3.alloc o
    exact (hb1.grown hg (fun e => by have := hr gp e.symm; omega)).other _ _ (by show gp ≠ gw; omega)
  · have hq' := h8.lt q hq
    rw [heap_setCell_other _ _ _ _ (by show q ≠ gw; omega), hg.block q (by simp; omega) (fun e => by have := hr q e.symm; omega), Below.heap_alloc _ _ _ (by omega)]

/-- What opened leaves of a configuration that is one. -/
def OpenedPost (L : Labs) (who gw : Nat) (cur : Array Value) (c : Cfg) (b : Nat) (D : DataW Unit) (pa : Option Addr) (k pk : Nat) (ps : List Value) (w : World) (e : Ending) (w' : World) : Prop := e = .returned (.bool true) ∧
  ∃ gp gx gs scap B C L1 ns pa' pk', Blk w' gw (cur.setIfInBounds 22 (.slice pa' (k + 1) pk')) 38 ∧ w'.ownsRow 0 97 1 (.slice pa' (k + 1) pk') (k + 1) (ps ++ [.pointer (some ⟨gp, 0, none⟩)]) ∧ (∀ q, (Value.slice pa' (k + 1) pk').ownBlock = some q → (Value.slice pa k pk).ownBlock = some q ∨ C ≤ q) ∧
    PairRaw w' B C gp gx gs scap c (some b) D ∧ AgentAt w' L1 who gx (Ag.new c D ns) ∧ ns.Perm (strKeys D) ∧ ns.Pairwise (fun x y => x ≤ y) ∧ w.heap.size ≤ B ∧ B ≤ C ∧ C ≤ w'.heap.size ∧ (∀ q, q < w.heap.size → L1 q = L q) ∧ (∀ q, B ≤ q → L1 q = none) ∧ Kept w w' gw (Value.ownBlock (.slice pa k pk))

set_option maxRecDepth 100000 in
set_option maxHeartbeats 4000000 in
theorem opened_good (L : Labs) (who : Nat) (hw0 : 1 ≤ who) (z : Int) (n gw : Nat) (hn : n < 2) (hpk : PickIs z n) (c : Cfg) (b nb : Nat) (D : DataW Unit) (cur : Array Value) (pa : Option Addr) (k pk : Nat) (ps : List Value) (w : World) (hown : OM w b nb D) (hnb : nb ≤ big) (hg : GoodC c D)
    (hcur : BlkAt w L (bl 2 0) gw cur 38) (hpc : cur[22]? = some (.slice pa k pk)) (hrow : RowAt w L (bl 7 0) 97 1 (.slice pa k pk) k ps) (hk : k ≤ 8000000)
    (hcfg : w.cell? ⟨gw, n * 11, none⟩ = some (.int .i64 c.d) ∧ w.cell? ⟨gw, n * 11 + 1, none⟩ = some (.map (some b)) ∧ w.cell? ⟨gw, n * 11 + 2, none⟩ = some (.int .i64 c.q) ∧ w.cell? ⟨gw, n * 11 + 3, none⟩ = some (.int .i64 c.at') ∧ w.cell? ⟨gw, n * 11 + 4, none⟩ = some (.int .i64 c.ba) ∧ w.cell? ⟨gw, n * 11 + 5, none⟩ = some (.int .i64 c.ca) ∧ w.cell? ⟨gw, n * 11 + 6, none⟩ = some (.int .i64 c.ti) ∧ w.cell? ⟨gw, n * 11 + 7, none⟩ = some (.int .i64 c.wi) ∧ w.cell? ⟨gw, n * 11 + 8, none⟩ = some (.int .i64 c.le) ∧ w.cell? ⟨gw, n * 11 + 9, none⟩ = some (.float .f64 c.th) ∧ w.cell? ⟨gw, n * 11 + 10, none⟩ = some (.int .i64 c.op)) :
    Calls Tryz.prog 16 #[.pointer (some ⟨gw, 0, none⟩), .int .i64 z] w fun e w' => OpenedPost L who gw cur c b D pa k pk ps w e w' := by
  obtain ⟨e0, e1, e2, e3, e4, e5, e6, e7, e8, e9, e10⟩ := hcfg
  have HC := hide hcur
  have HPk := hide hpk
  have HP := hide hpc
  have HR := hide hrow
  have HO := hide hown
  have HG := hide hg
  have hgw := World.block_lt_of_cell? w _ e0
  have hbl := hown.lt
  have hnI : (n : Int) < 2 := by omega
  have hn0 : (0 : Int) ≤ (n : Int) := by omega
  have hnn := fun w => run_neq_map_nil (P := Tryz.prog) w 22 9 3 (some b) Tryz.underlying22
  have hmm := @run_makeMap Tryz.prog
  clear hcur hpc hrow hown hg hpk
  go_enter Tryz.func16, Tryz.ntmps16
  go_upto_region 1 with fail
  go_cut [5] (fun s5 wx => s5 = .pointer (some ⟨w.heap.size, 0, none⟩) ∧ wx = (w.alloc (.cells (c.cells (some b)) 25)).drew)
  case first =>
    go_region_held3 (fun w' => w'.cell? ⟨gw, n * 11, none⟩ = some (.int .i64 c.d) ∧ w'.cell? ⟨gw, n * 11 + 1, none⟩ = some (.map (some b)) ∧ w'.cell? ⟨gw, n * 11 + 2, none⟩ = some (.int .i64 c.q) ∧ w'.cell? ⟨gw, n * 11 + 3, none⟩ = some (.int .i64 c.at') ∧ w'.cell? ⟨gw, n * 11 + 4, none⟩ = some (.int .i64 c.ba) ∧ w'.cell? ⟨gw, n * 11 + 5, none⟩ = some (.int .i64 c.ca) ∧ w'.cell? ⟨gw, n * 11 + 6, none⟩ = some (.int .i64 c.ti) ∧ w'.cell? ⟨gw, n * 11 + 7, none⟩ = some (.int .i64 c.wi) ∧ w'.cell? ⟨gw, n * 11 + 8, none⟩ = some (.int .i64 c.le) ∧ w'.cell? ⟨gw, n * 11 + 9, none⟩ = some (.float .f64 c.th) ∧ w'.cell? ⟨gw, n * 11 + 10, none⟩ = some (.int .i64 c.op)) (go_keep)
      (first
        | (go_at_call 40; refine (HPk.out _).mono ?_; rintro e w1 ⟨rfl, rfl⟩))
    all_goals (go_wp2_with fail; go_meet; exact ⟨rfl, rfl⟩)
  case rest =>
  obtain ⟨rfl, hwc⟩ := hcut
  have hK0 : Blk wc w.heap.size (c.cells (some b)) 25 := by rw [hwc]; exact Blk.new w _ _
  have hz0 : wc.heap.size = w.heap.size + 1 := by rw [hwc]; simp
  have hB0 : Below w.heap.size w wc := by rw [hwc]; exact ((Below.refl _ _).alloc (Nat.le_refl _) _).drew
  clear hwc e0 e1 e2 e3 e4 e5 e6 e7 e8 e9 e10
  obtain ⟨e0, e1, e2, e3, e4, e5, e6, e7, e8, e9, e10⟩ : wc.cell? ⟨w.heap.size, 0, none⟩ = some (.int .i64 c.d) ∧ wc.cell? ⟨w.heap.size, 1, none⟩ = some (.map (some b)) ∧ wc.cell? ⟨w.heap.size, 2, none⟩ = some (.int .i64 c.q) ∧ wc.cell? ⟨w.heap.size, 3, none⟩ = some (.int .i64 c.at') ∧ wc.cell? ⟨w.heap.size, 4, none⟩ = some (.int .i64 c.ba) ∧ wc.cell? ⟨w.heap.size, 5, none⟩ = some (.int .i64 c.ca) ∧ wc.cell? ⟨w.heap.size, 6, none⟩ = some (.int .i64 c.ti) ∧ wc.cell? ⟨w.heap.size, 7, none⟩ = some (.int .i64 c.wi) ∧ wc.cell? ⟨w.heap.size, 8, none⟩ = some (.int .i64 c.le) ∧ wc.cell? ⟨w.heap.size, 9, none⟩ = some (.float .f64 c.th) ∧ wc.cell? ⟨w.heap.size, 10, none⟩ = some (.int .i64 c.op) := ⟨hK0.cell 0, hK0.cell 1, hK0.cell 2, hK0.cell 3, hK0.cell 4, hK0.cell 5, hK0.cell 6, hK0.cell 7, hK0.cell 8, hK0.cell 9, hK0.cell 10⟩
  have HK0 := hide hK0
  have HB0 := hide hB0
  have Hz0 := hide hz0
  have hlt0 : w.heap.size < wc.heap.size := hK0.lt
  clear hK0 hB0 hz0
  have hownc : OM wc b nb D := om_below HO.out HB0.out hbl
  have hblc : b < wc.heap.size := hownc.lt
  have hsize : Maps.size D ≤ nb := hownc.size_le
  go_wp2_with (first
    | (at_range; refine wpList_range_own _ rfl _ 22 rfl 9 3 lawS Tryz.underlying22 _ b nb _ rfl ((hownc.alloc _).alloc _) ?_; intro w0 hrg0 hg0 hs0)
    | fail)
  try go_frame
  try simp only [World.size_alloc] at hrg0 ⊢
  generalize hN : wc.heap.size = N at *
  have HNe := hide hN
  have hw0K : Blk w0 N (c.cells (some (N + 1))) 25 := by
    have h1 := ((Blk.made hN (c.cells (some (N + 1))) 25).alloc (.map #[] 0)).grown hg0 (by simp)
    exact h1
  have hw0M : OM w0 (N + 1) 0 (.map []) := (om_new (by simp [hN])).kept hg0 (by simp)
  have hw0B : Below N wc w0 := (((Below.refl _ _).alloc (by omega) _).alloc (by simp; omega) _).grown hg0 (by simp; omega) (fun j hj => by cases hj)
  have HK := hide hw0K
  have HM := hide hw0M
  have HB := hide hw0B
  clear hw0K hw0M hw0B hg0 hs0 hN e0 e1 e2 e3 e4 e5 e6 e7 e8 e9 e10
  go_loopw [7] (fun _ wr => ∃ (left : Lit → Bool) (cnt : Nat) (Dout : DataW Unit), RG wr b (N + 1 + 1) nb D left cnt ∧ cnt ≤ Maps.size D ∧ OM wr (N + 1) (Maps.size D - cnt) Dout ∧ Agree Dout D left ∧
      Blk wr N (c.cells (some (N + 1))) 25 ∧ Below N wc wr) (fun _ wr => wr.rangeLeft b (N + 1 + 1))
  case atStart => exact ⟨_, _, .map [], hrg0, Nat.le_refl _, HM.out.mono (Nat.zero_le _), agree_start D, HK.out, HB.out⟩
  case round =>
    obtain ⟨left, cnt, Dout, hrg, hcs, hout, hA, hK, hnx⟩ := hrel
    have Hout := hide hout
    have HA := hide hA
    have HK1 := hide hK
    have Hnx := hide hnx
    have hNw : N < wr.heap.size := hK.lt
    have e1 : wr.cell? ⟨N, 1, none⟩ = some (.map (some (N + 1))) := hK.cell 1
    clear hout hA hK hnx
    go_wp2_with (first
      | (at_next; refine wpList_next_ranges _ rfl _ rfl 9 lawS (plainElem Tryz.prog 3) encStr (Value.int .i64) invK invV b (N + 1 + 1) nb _ _ _ rfl hrg ?_ ?_)
      | fail)
    · intro hc0 hl0
      have hE : Dout = D := agree_end HA.out hl0 (Hout.out.canon lawS) (HO.out.canon lawS)
      subst hE
      clear hl0 e1
      have hNw' : N ≤ wr.heap.size := by omega
      have hwN : w.heap.size < N := by have := HNe.out; omega
      have HBw : Hid (Below w.heap.size w wr) := HB0.out.trans (Hnx.out.mono (by omega))
      have HKc : Hid (Blk wr w.heap.size (c.cells (some b)) 25) := HK0.out.below Hnx.out hwN
      have HMo : Hid (OM wr (N + 1) big Dout) := Hout.out.mono (by unfold big at *; omega)
      have HMb : Hid (OM wr b nb Dout) := om_below hownc Hnx.out (by have := HNe.out; omega)
      clear Hout hownc hrg hcs hrg0
      go_wp2_with (first
        | (refine wpList_load_mid rfl 25 _ rfl N 0 rfl (c.cells (some (N + 1))).toList _ (HK1.out.range 0 _ rfl) Tryz.underlying25 rfl infoConfig ?_)
        | fail)
      refine (open_good (fun q => if q < w.heap.size then L q else none) who c (some (N + 1)) Dout _ (Or.inr ⟨N + 1, big, rfl, HMo.out, Nat.le_refl _⟩) HG.out).mono ?_
      rintro e w3 ⟨gx, L1, ns, rfl, hA3, hpm3, hso3, hb3, _, hL1, hLn⟩
      have HA3 := hide hA3
      have Hpm3 := hide hpm3
      have Hso3 := hide hso3
      have HL1 : Hid (∀ q, q < w.heap.size → L1 q = L q) := fun q hq => by rw [hL1 q (by omega)]; simp [hq]
      have HLN : Hid (L1 (N + 1) = none) := by rw [hL1 (N + 1) HMo.out.lt]; exact if_neg (by omega)
      have HLn := hide hLn
      clear hA3 hpm3 hso3 hL1 hLn
      have HBw3 : Hid (Below w.heap.size w w3) := HBw.out.trans (hb3.mono HBw.out.size)
      have HKc3 : Hid (Blk w3 w.heap.size (c.cells (some b)) 25) := HKc.out.below hb3 HKc.out.lt
      have HKo3 : Hid (Blk w3 N (c.cells (some (N + 1))) 25) := HK1.out.below hb3 HK1.out.lt
      have HMo3 : Hid (OM w3 (N + 1) big Dout) := om_below HMo.out hb3 HMo.out.lt
      have HMb3 : Hid (OM w3 b nb Dout) := om_below HMb.out hb3 HMb.out.lt
      have hz3 : wr.heap.size ≤ w3.heap.size := hb3.size
      clear hb3
      go_wp2_with (first
        | (refine wpList_load_mid rfl 25 _ rfl w.heap.size 0 rfl (c.cells (some b)).toList _ (HKc3.out.range 0 _ rfl) Tryz.underlying25 rfl infoConfig ?_)
        | fail)
      refine (good_any c (some b) Dout _ (Or.inr ⟨b, nb, rfl, HMb3.out, hnb⟩)).mono ?_
      rintro e w4 ⟨⟨r4, rfl, hr4⟩, hb4⟩
      have hr4' : r4 = true := hr4.2 HG.out
      subst hr4'
      clear hr4
      have HBw4 : Hid (Below w.heap.size w w4) := HBw3.out.trans (hb4.mono HBw3.out.size)
      have HA4 : Hid (AgentAt w4 L1 who gx (Ag.new c Dout ns)) := HA3.out.keep (Step.of_below (p := fun _ => False) hb4) (fun _ h => h)
      have HKc4 : Hid (Blk w4 w.heap.size (c.cells (some b)) 25) := HKc3.out.below hb4 HKc3.out.lt
      have HKo4 : Hid (Blk w4 N (c.cells (some (N + 1))) 25) := HKo3.out.below hb4 HKo3.out.lt
      have HMo4 : Hid (OM w4 (N + 1) big Dout) := om_below HMo3.out hb4 HMo3.out.lt
      have HMb4 : Hid (OM w4 b nb Dout) := om_below HMb3.out hb4 HMb3.out.lt
      have k41 : w4.cell? ⟨N, 1, none⟩ = some (.map (some (N + 1))) := HKo4.out.cell 1
      have hz4 : w3.heap.size ≤ w4.heap.size := hb4.size
      clear hb4
      go_wp2_with (first
        | (refine wpList_load_mid rfl 25 _ rfl w.heap.size 0 rfl (c.cells (some b)).toList _ (HKc4.out.range 0 _ rfl) Tryz.underlying25 rfl infoConfig ?_)
        | fail)
      refine (same_some c (N + 1) b big nb Dout _ HMo4.out HMb4.out).mono ?_
      rintro e w5 ⟨rfl, hb5⟩
      have HBw5 : Hid (Below w.heap.size w w5) := HBw4.out.trans (hb5.mono HBw4.out.size)
      have HA5 : Hid (AgentAt w5 L1 who gx (Ag.new c Dout ns)) := HA4.out.keep (Step.of_below (p := fun _ => False) hb5) (fun _ h => h)
      have HKc5 : Hid (Blk w5 w.heap.size (c.cells (some b)) 25) := HKc4.out.below hb5 HKc4.out.lt
      have HKo5 : Hid (Blk w5 N (c.cells (some (N + 1))) 25) := HKo4.out.below hb5 HKo4.out.lt
      have HMb5 : Hid (OM w5 b nb Dout) := om_below HMb4.out hb5 HMb4.out.lt
      obtain ⟨es5, clock5, hes5, _⟩ := om_below HMo4.out hb5 HMo4.out.lt
      have k51 : w5.cell? ⟨N, 1, none⟩ = some (.map (some (N + 1))) := HKo5.out.cell 1
      have hclr := fun ty => run_clear_map (P := Tryz.prog) Tryz.underlying22 hes5 ty
      have hz5 : w4.heap.size ≤ w5.heap.size := hb5.size
      have hb6 : Below (N + 1) w5 (ChangeMaps.setBlock w5 (N + 1) (.map #[] clock5)) := below_setBlock hes5 _
      generalize hw6 : ChangeMaps.setBlock w5 (N + 1) (.map #[] clock5) = w6 at *
      have HBw6 : Hid (Below w.heap.size w w6) := HBw5.out.trans (hb6.mono (by omega))
      have hz6 : w6.heap.size = w5.heap.size := by rw [← hw6]; simp [ChangeMaps.setBlock]
      have hoth6 : ∀ k, k ≠ N + 1 → w6.heap[k]? = w5.heap[k]? := by rw [← hw6]; exact fun k hk => ChangeMaps.heap_setBlock_other hes5 _ hk
      have HZ6 := hide hz6
      have HO6 := hide hoth6
      have HA6 : Hid (AgentAt w6 L1 who gx (Ag.new c Dout ns)) := HA5.out.keep (p := fun l => l = none) ⟨by rw [← hw6]; rfl, by rw [← hw6]; rfl, by rw [← hw6]; rfl, by omega, fun _ _ => rfl, fun q _ hne => HO6.out q (fun e => hne (by rw [e]; exact HLN.out))⟩ (fun _ h => by cases h)
      clear hw6 hb5 hb6 hes5 k41 hz6 hoth6
      have hN16 : N + 1 < w5.heap.size := by have := HMo4.out.lt; omega
      have HKc6 : Hid (Blk w6 w.heap.size (c.cells (some b)) 25) := by show Blk _ _ _ _; unfold Blk; rw [HO6.out _ (by omega)]; exact HKc5.out
      have HMb6 : Hid (OM w6 b nb Dout) := by
        obtain ⟨es, clock, q1, q2⟩ := HMb5.out
        exact ⟨es, clock, by rw [HO6.out _ (by omega)]; exact q1, q2⟩
      have hlt6 : w.heap.size < w6.heap.size := HKc6.out.lt
      obtain ⟨e0, e1, e2, e3, e4, e5, e6, e7, e8, e9, e10⟩ : w6.cell? ⟨w.heap.size, 0, none⟩ = some (.int .i64 c.d) ∧ w6.cell? ⟨w.heap.size, 1, none⟩ = some (.map (some b)) ∧ w6.cell? ⟨w.heap.size, 2, none⟩ = some (.int .i64 c.q) ∧ w6.cell? ⟨w.heap.size, 3, none⟩ = some (.int .i64 c.at') ∧ w6.cell? ⟨w.heap.size, 4, none⟩ = some (.int .i64 c.ba) ∧ w6.cell? ⟨w.heap.size, 5, none⟩ = some (.int .i64 c.ca) ∧ w6.cell? ⟨w.heap.size, 6, none⟩ = some (.int .i64 c.ti) ∧ w6.cell? ⟨w.heap.size, 7, none⟩ = some (.int .i64 c.wi) ∧ w6.cell? ⟨w.heap.size, 8, none⟩ = some (.int .i64 c.le) ∧ w6.cell? ⟨w.heap.size, 9, none⟩ = some (.float .f64 c.th) ∧ w6.cell? ⟨w.heap.size, 10, none⟩ = some (.int .i64 c.op) := ⟨HKc6.out.cell 0, HKc6.out.cell 1, HKc6.out.cell 2, HKc6.out.cell 3, HKc6.out.cell 4, HKc6.out.cell 5, HKc6.out.cell 6, HKc6.out.cell 7, HKc6.out.cell 8, HKc6.out.cell 9, HKc6.out.cell 10⟩
      have hdd := Cfg.num_d HG.out.1
      go_upto_region 18 with fail
      go_cut [13] (fun s13 wx => ∃ gp, s13 = .pointer (some ⟨gp, 0, none⟩) ∧ PairNew w6 wx gp gx c (some b) Dout)
      case first =>
        go_region_held3 (fun w' => w'.cell? ⟨w.heap.size, 0, none⟩ = some (.int .i64 c.d) ∧ w'.cell? ⟨w.heap.size, 1, none⟩ = some (.map (some b)) ∧ w'.cell? ⟨w.heap.size, 2, none⟩ = some (.int .i64 c.q) ∧ w'.cell? ⟨w.heap.size, 3, none⟩ = some (.int .i64 c.at') ∧ w'.cell? ⟨w.heap.size, 4, none⟩ = some (.int .i64 c.ba) ∧ w'.cell? ⟨w.heap.size, 5, none⟩ = some (.int .i64 c.ca) ∧ w'.cell? ⟨w.heap.size, 6, none⟩ = some (.int .i64 c.ti) ∧ w'.cell? ⟨w.heap.size, 7, none⟩ = some (.int .i64 c.wi) ∧ w'.cell? ⟨w.heap.size, 8, none⟩ = some (.int .i64 c.le) ∧ w'.cell? ⟨w.heap.size, 9, none⟩ = some (.float .f64 c.th) ∧ w'.cell? ⟨w.heap.size, 10, none⟩ = some (.int .i64 c.op)) (go_keep)
          (first
            | (go_at_call 43; refine (refOpen_any c (some b) Dout _ (Or.inr ⟨b, nb, rfl, (by exact HMb6.out), hnb⟩) hdd.1 hdd.2).mono ?_; rintro e w7 ⟨gy, ss, L0, rfl, hRA, hLb, hPm, hSo, hb7⟩; have hc7 := fun o => hb7.cell (p := ⟨w.heap.size, o, none⟩) hlt6; have HR7 : Hid (∃ ss L0, RefAt w7 L0 0 gy (Rf.new c (some b) Dout ss) ∧ (∀ k l, L0 k = some l → w6.heap.size ≤ k ∧ k < w7.heap.size) ∧ ss.Perm (strKeys Dout) ∧ ss.Pairwise (fun a b => a ≤ b) ∧ Below w6.heap.size w6 w7) := ⟨ss, L0, hRA, hLb, hPm, hSo, (Below.refl w6.heap.size w6).drew.trans hb7⟩; have HA7 : Hid (AgentAt w7 L1 who gx (Ag.new c Dout ns)) := HA6.out.keep (Step.of_below (p := fun _ => False) ((Below.refl w6.heap.size w6).drew.trans hb7)) (fun _ h => h); clear hRA hLb hPm hSo hb7)
            | (go_at_call 33; refine (log_any L1 who gx _ _ HA7.out).mono ?_; rintro e w8 ⟨rfl, rfl⟩))
        go_wp2_with fail
        go_meet
        refine ⟨_, rfl, ?_⟩
        obtain ⟨ss, L0, q1, q2, q3, q4, q5⟩ := HR7.out
        exact ⟨gy, ss, L0, q5.size, Blk.new _ _ _, q1.alloc _, fun k l hk => by have := q2 k l hk; simp; omega, q3, q4, q5.alloc q5.size _⟩
      case rest =>
        obtain ⟨gp, rfl, gy, ss, L0, hgp, hkp, hRA, hLb, hPm, hSo, hbd⟩ := hcut
        have HKP := hide hkp
        have HRA := hide hRA
        have HLb := hide hLb
        have HPm := hide hPm
        have HSo := hide hSo
        have hgpl : gp < wc.heap.size := hkp.lt
        have b13 : wc.cell? ⟨gp, 13, none⟩ = some (.slice none 0 0) := hkp.cell 13
        have b14 : wc.cell? ⟨gp, 14, none⟩ = some (.string ⟨#[]⟩) := hkp.cell 14
        have g13 : wc.frozen? ⟨gp, 13, none⟩ = false := hkp.frozen 13
        have HBd : Hid (Below w.heap.size w wc) := HBw6.out.trans (hbd.mono (by omega))
        have HBd6 := hide hbd
        have hrow0 : wc.ownsRow (gp + 1) 105 3 (.slice none 0 0) 0 [] := ⟨rfl, Or.inl ⟨rfl, rfl⟩⟩
        obtain ⟨i1, hi1, hy0, hy1, hy2⟩ := info_parts infoStand
        clear hkp hRA hLb hPm hSo e0 e1 e2 e3 e4 e5 e6 e7 e8 e9 e10
        go_upto_region 19 with fail
        have HU : Hid (∀ (w2 : World) (gg cap : Nat), w2.ownsRow (gp + 1) 105 3 (.slice (some ⟨gg, 0, none⟩) 1 cap) 1 stand0 → ((wc.alloc (.cells #[.int .i64 0, .slice none 0 0, .slice none 0 0] 105)).drew).grownBy w2 none → (wc.heap.size ≤ gg ∧ gg < w2.heap.size) → (∃ gs scap C, PairRaw (w2.setCell ⟨gp, 13, none⟩ (.slice (some ⟨gg, 0, none⟩) 1 cap)) w6.heap.size C gp gx gs scap c (some b) Dout ∧ w6.heap.size ≤ C ∧ C ≤ (w2.setCell ⟨gp, 13, none⟩ (.slice (some ⟨gg, 0, none⟩) 1 cap)).heap.size) ∧ Below w6.heap.size w6 (w2.setCell ⟨gp, 13, none⟩ (.slice (some ⟨gg, 0, none⟩) 1 cap))) := fun w2 gg cap hown hg hgg => by
          have hb2 : Below wc.heap.size wc w2 := (((Below.refl _ _).alloc (Nat.le_refl _) _).drew).grown hg (by simp) (fun j hj => by cases hj)
          have hb3 : Below w6.heap.size w6 w2 := HBd6.out.trans (hb2.mono HBd6.out.size)
          have hz2 := hb2.size
          have hz6 := HBd6.out.size
          have hgn : L0 gp = none := by
            cases e : L0 gp with
            | none => rfl
            | some l => exact absurd rfl (HLb.out gp l e).2.2
          refine ⟨⟨gg, cap, w2.heap.size, ⟨gy, ss, L0, by omega, by omega, (HKP.out.below hb2 HKP.out.lt).set 13 _, ?_, fun k l hk => by have := HLb.out k l hk; exact ⟨this.1, by omega, this.2.2, by omega⟩, HPm.out, HSo.out, ?_, hgg.2, by omega⟩, by omega, by simp [World.setCell]⟩, hb3.setCell (by show w6.heap.size ≤ gp; omega) _⟩
          · exact HRA.out.keep (p := fun l => l = none) ((Step.of_below hb2).trans (Step.setCell L0 w2 ⟨gp, 13, none⟩ _ hgn)) (fun q e => by cases e)
          · refine ownsRow_same hown (fun q hq => ?_) (by omega)
            have := (hown.lt q hq).1
            rw [heap_setCell_other _ _ _ _ (by show q ≠ gp; omega)]
        go_cut [] (fun wx => (∃ gs scap C, PairRaw wx w6.heap.size C gp gx gs scap c (some b) Dout ∧ w6.heap.size ≤ C ∧ C ≤ wx.heap.size) ∧ Below w6.heap.size w6 wx)
        case first =>
          go_region_law (refine step_append_lies _ (by rfl) _ _ _ (by rfl) (gp + 1) 105 i1 _ 3 56 Tryz.underlying100 hi1 hy0 hy1 hy2 rfl (by omega) (.slice none 0 0) 0 [] (by rfl) ((hrow0.alloc _).drew) ⟨wc.heap.size, 0, none⟩ 1 1 [.int .i64 0, .slice none 0 0, .slice none 0 0] (by rfl) (by rfl) (World.news_of_block (cs := #[.int .i64 0, .slice none 0 0, .slice none 0 0]) (t := 105) (fr := (0, 0)) (heap_alloc_new wc _)) (by simp [Value.oneCell']) (by omega) (by decide) (by decide) (by simp; omega) (wc.heap.size + 1) (by simp) ?_; intro gg cap w2 hown2 hgrow hat hlt3; have hBk := Blk.grown (w := World.drew (World.alloc wc _)) (HKP.out.alloc _) hgrow (by simp [Value.ownBlock]); have c13 := hBk.cell 13; have g13' := hBk.frozen 13; simp at c13; have HU2 := hide (HU.out w2 gg cap (by simpa using hown2) hgrow ⟨by rcases hat with e | e; simp [Value.ownBlock] at e; omega, hlt3⟩); clear hBk)
          all_goals (go_wp2_with fail; go_meet; exact HU2.out)
        case rest =>
          obtain ⟨⟨gs, scap, C, hPA, hC6, hCz⟩, hbx6⟩ := hcut
          have hbx : Below w.heap.size w wc := HBw6.out.trans (hbx6.mono (by omega))
          have HBx6 := hide hbx6
          have HA9 : Hid (AgentAt wc L1 who gx (Ag.new c Dout ns)) := HA6.out.keep (Step.of_below (p := fun _ => False) hbx6) (fun _ h => h)
          have h69 : w6.heap.size ≤ wc.heap.size := hbx6.size
          have hS0 : Step (fun _ => False) L w L1 wc := Step.of_below' hbx HL1.out
          have HPA := hide hPA
          have HBx := hide hbx
          have hkwA : BlkAt wc L1 (bl 2 0) gw cur 38 := HC.out.keep hS0 (fun h => h)
          have hkw := hkwA.1
          have HKA := hide hkwA.2
          have hrwA : RowAt wc L1 (bl 7 0) 97 1 (.slice pa k pk) k ps := HR.out.keep hS0 (fun h => h)
          have hrw := hrwA.1
          have HRA := hide hrwA.2
          have HKW := hide hkw
          have HRW := hide hrw
          have a22 : wc.cell? ⟨gw, 22, none⟩ = some (.slice pa k pk) := (hkw.cell 22).trans HP.out
          have f22 : wc.frozen? ⟨gw, 22, none⟩ = false := hkw.frozen 22
          have hgwc : gw < wc.heap.size := hkw.lt
          have hz9 : w.heap.size ≤ wc.heap.size := hbx.size
          obtain ⟨i2, hi2, ho0, ho1, ho2⟩ := info_parts infoPairP
          clear hPA hbx hbx6 hkw hkwA hrwA hS0 b13 b14 g13
          go_wp2_with (first
            | (at_builtin; refine wpList_append_lies _ rfl _ _ 31 rfl 0 97 i2 (.pointer none) 1 8 Tryz.underlying31 hi2 ho0 ho1 ho2 rfl (by decide) _ _ _ rfl (hrw.alloc _) ⟨wc.heap.size, 0, none⟩ 1 1 [.pointer (some ⟨gp, 0, none⟩)] rfl rfl (cell_one_new _ _ _) (by simp [Value.oneCell']) (by decide) (by unfold maxLen; omega) (by omega) (Nat.zero_le _) (wc.heap.size + 1) (by simp) ?_; intro gg cap w9 hown9 hg9 hat9 hlt9; have hK9 := Blk.grown (HKW.out.alloc _) hg9 (fun e => by have := HRA.out gw e.symm; rw [HKA.out] at this; simp [bl] at this); have HAt9 := hide hat9; have c22 := (hK9.cell 22).trans HP.out; have d22 := hK9.frozen 22; have HK9 := hide hK9; have HO9 := hide hown9; have HG9 := hide hg9; clear hK9 hown9 hg9)
            | fail)
          go_ret
          have hgw0 : gw < w.heap.size := hgw
          have hne0 : ∀ q, some q = Value.ownBlock (.slice pa k pk) → L1 q = bl 7 0 := fun q hq => HRA.out q hq.symm
          refine ⟨rfl, gp, gx, gs, scap, w6.heap.size, C, L1, ns, _, _, HK9.out.set 22 _, ?_, ?_, ?_, ?_, Hpm3.out, Hso3.out, by omega, hC6, ?_, HL1.out, fun q hq => HLn.out q (by have := HZ6.out; omega), ?_⟩
          · refine ⟨HO9.out.1, ?_⟩
            rcases HO9.out.2 with ⟨h, _⟩ | ⟨q, c', cu, q1, q2, q3, q4⟩
            · cases h
            · refine Or.inr ⟨q, c', cu, q1, q2, ?_, q4⟩
              rw [heap_setCell_other _ _ _ _ (fun e => by have e' : q = gw := e; subst e'; have := HK9.out; unfold Blk at this; rw [q3] at this; cases this)]
              exact q3
          · intro q hq
            obtain rfl : gg = q := by simpa [Value.ownBlock] using hq
            exact HAt9.out.imp id (fun e => by omega)
          · exact pairRaw_after' HPA.out HG9.out (fun q hq => by have := (HR.out.1.lt q hq).2; omega) (by omega) _ _
          · refine (HA9.out.keep (p := fun l => l = bl 7 0 ∨ l = bl 2 0) ((Step.alloc L1 wc _).trans ((Step.of_grown HG9.out (fun j hj => Or.inl (hne0 j hj.symm)) (fun _ _ => rfl)).trans (Step.setCell L1 w9 ⟨gw, 22, none⟩ _ (Or.inr HKA.out)))) (fun q h => ?_))
            simp [bl] at h
            omega
          · have := HG9.out.size; simp [World.setCell] at this ⊢; omega
          · refine ⟨?_, ?_, ?_, ?_, ?_⟩
            · exact HG9.out.os.trans HBx.out.os
            · exact HG9.out.tape.trans HBx.out.tape
            · exact HG9.out.output.trans HBx.out.output
            · have := HG9.out.size; simp [World.setCell] at this ⊢; omega
            · intro q hq h1 h2
              rw [heap_setCell_other _ _ _ _ h1, HG9.out.block q (by simp; omega) h2, Below.heap_alloc _ _ _ (by omega), HBx.out.block q hq]
    · intro x q kl yd yp w2 cnt2 hkey hlk hv hat hrg2 hlt hg2 hs2 hen
      obtain ⟨x', ex, rfl, hxl⟩ := Maps.keyOf_str Tryz.underlying9 hkey
      obtain rfl : x = x' := encStr_inj ex
      obtain ⟨q', eq', ey, hwq⟩ := plainElem_int_inv Tryz.underlying3 hv
      obtain rfl : q = q' := by simpa using eq'
      obtain ⟨rfl, rfl⟩ : yd = .lit (.int .i64 q) ∧ yp = [] := by simpa using ey
      have hout1 : OM w2 (N + 1) (Maps.size D - cnt) Dout := Hout.out.kept hg2 (by simp)
      have HK2 : Hid (Blk w2 N (c.cells (some (N + 1))) 25) := HK1.out.grown hg2 (by simp; omega)
      have hN2 : N ≤ wc.heap.size := by rw [HNe.out]; exact Nat.le_refl _
      have HB2 : Hid (Below N wc w2) := Hnx.out.grown hg2 (by omega) (fun j hj => by cases hj; omega)
      have HA2 := hide (agree_step (kl := .string x) HA.out Hout.out.isMap trivial hat)
      have HMe : Hid (cnt2 < wr.rangeLeft b (N + 1 + 1)) := by rw [hrg.left_eq]; exact hlt
      have Hrg2 := hide hrg2
      have hc2 : cnt2 < cnt := hlt
      have hNw2 : N < w2.heap.size := HK2.out.lt
      have e1' : w2.cell? ⟨N, 1, none⟩ = some (.map (some (N + 1))) := HK2.out.cell 1
      clear hlk hv hat ex eq' ey hs2 hlt hg2 hrg2 e1
      go_wp2_with (first
        | (at_mapUpdate; refine wpList_mapUpdate_own _ rfl _ _ _ 22 rfl 9 3 lawS Tryz.underlying22 _ (N + 1) _ _ rfl hout1 (by unfold maxLen; unfold big at hnb; omega) _ _ _ rfl rfl hkey _ [] (plainElem_int Tryz.underlying3 hwq) ?_; intro w3 hout3 hg3; go_frame)
        | fail)
      have hrg3 := Hrg2.out.kept hg3 (by simp; omega) (by simp)
      have hN3 : Blk w3 N (c.cells (some (N + 1))) 25 := HK2.out.grown hg3 (by simp)
      have hB3 : Below N wc w3 := HB2.out.grown hg3 (by omega) (fun j hj => by cases hj; omega)
      go_roundw
      case rel => exact ⟨_, cnt2, _, hrg3, by omega, hout3.mono (by omega), HA2.out, hN3, hB3⟩
      case measure => rw [hrg3.left_eq]; exact HMe.out
end Go.Proofs.YtojpjaifhjigfaaGreatDoor

/- (*World).opened, over the whole world. -/
namespace Go.Proofs.YtojpjaifhjigfaaGreatDoor
open Go.RowKit Go.Maps

/-- The labels of what a new pair has brought. -/
def pairLabs (L1 L0 : Labs) (B gp gs i : Nat) (rb : Option Nat) : Labs := fun k =>
  if k < B then L1 k else if k = gp then bl 8 i else if k = gs then bl 9 i else match L0 k with
  | some (_, q) => some (2 * i + 2, q)
  | none => if rb = some k then bl 7 0 else none
theorem pairLabs_old {L1 L0 : Labs} {B gp gs i k : Nat} {rb : Option Nat} (hk : k < B) : pairLabs L1 L0 B gp gs i rb k = L1 k := by simp [pairLabs, hk]

theorem sim_new {c : Cfg} {m : Option Nat} {D : DataW Unit} {ns ss : List (List UInt8)} (h : ss = ns) : Sim (Ag.new c D ns) (Rf.new c m D ss) := by
  subst h
  refine ⟨rfl, rfl, rfl, rfl, rfl, rfl, by simp [Rf.new, Ag.new], fun d o l ho hl => ?_, fun p q r hq => by simp [Ag.new] at hq⟩
  have ho' : (List.replicate c.d.toNat (newL ss.length))[d]? = some o := ho
  have hl' : (List.replicate c.d.toNat (newL ss.length))[d]? = some l := hl
  rw [ho'] at hl'
  cases hl'
  have e : o = newL ss.length := (List.mem_replicate.1 (List.mem_of_getElem? ho')).2
  subst e
  exact ⟨rfl, rfl, rfl, (fun h => (by cases h)), rfl, rfl, rfl, rfl, rfl⟩
theorem sorted_names {a b : List (List UInt8)} {D : DataW Unit} (ha : a.Perm (strKeys D)) (hb : b.Perm (strKeys D)) (sa : a.Pairwise (fun x y => x ≤ y)) (sb : b.Pairwise (fun x y => x ≤ y)) : a = b :=
  List.Perm.eq_of_pairwise (fun _ _ _ _ h k => List.le_antisymm h k) sa sb (ha.trans hb.symm)

/-- Configuration n of the world. -/
structure CfgAt (w : World) (L : Labs) (cur : Array Value) (n : Nat) (c : Cfg) (m : Option Nat) (D : DataW Unit) : Prop where
  cell : ∀ j v, (c.cells m)[j]? = some v → cur[n * 11 + j]? = some v
  map : MapAt w m D
  lab : ∀ b, m = some b → L b = none
theorem CfgAt.keep {w w' : World} {L L' : Labs} {cur cur' : Array Value} {n : Nat} {c : Cfg} {m : Option Nat} {D : DataW Unit} (h : CfgAt w L cur n c m D) {p : Lab → Prop} (s : Step p L w L' w') (hp : ¬ p none) (hc : ∀ i, i < 22 → cur'[i]? = cur[i]?) (hn : n < 2) : CfgAt w' L' cur' n c m D := by
  refine ⟨fun j v hv => ?_, ?_, fun b hb => ?_⟩
  · have hj : j < 11 := (Array.getElem?_eq_some_iff.1 hv).1
    rw [hc _ (by omega)]
    exact h.cell j v hv
  · rcases h.map with q | ⟨b, n', h1, h2, h3⟩
    · exact Or.inl q
    · exact Or.inr ⟨b, n', h1, ownsMap_of_block h2 (s.block b h2.lt (by rw [h.lab b h1]; exact hp)), h3⟩
  · rcases h.map with ⟨q, _⟩ | ⟨b', n', h1, h2, h3⟩
    · rw [hb] at q; cases q
    · rw [hb] at h1
      cases h1
      rw [s.lab _ h2.lt]
      exact h.lab _ hb

/-- What opened may turn. -/
def opP : Lab → Prop := fun l => l = bl 7 0 ∨ l = bl 2 0

theorem opened_any (L : Labs) (gw : Nat) (A : Nat → Addr) (z : Int) (n : Nat) (hn : n < 2) (hpk : PickIs z n) (cur : Array Value) (X : WS) (c : Cfg) (m : Option Nat) (D : DataW Unit) (w : World) (h : WAt w L gw A cur X) (hc : CfgAt w L cur n c m D) (hnp : X.np ≤ 8000000) :
    Calls Tryz.prog 16 #[.pointer (some ⟨gw, 0, none⟩), .int .i64 z] w fun e w' => e = .returned (.bool true) ∧ ∃ L' cur' X', WAt w' L' gw A cur' X' ∧ ((X' = X ∧ ¬ GoodC c D) ∨ (GoodC c D ∧ ∃ pv' ps' ns ss sv', X' = { X with pv := pv', np := X.np + 1, ps := ps', ag := upd X.ag X.np (Ag.new c D ns), rf := upd X.rf X.np (Rf.new c m D ss), pd := upd X.pd X.np ⟨c, m, D, sv', .string ⟨#[]⟩, [⟨0, [], []⟩]⟩ } ∧ ss = ns ∧ ns.Pairwise (fun a b => a ≤ b) ∧ Inv (Ag.new c D ns) 0)) ∧ (∀ i, i ≠ 22 → cur'[i]? = cur[i]?) ∧ Step opP L w L' w' := by
  have hcells : w.cell? ⟨gw, n * 11, none⟩ = some (.int .i64 c.d) ∧ w.cell? ⟨gw, n * 11 + 1, none⟩ = some (.map (m)) ∧ w.cell? ⟨gw, n * 11 + 2, none⟩ = some (.int .i64 c.q) ∧ w.cell? ⟨gw, n * 11 + 3, none⟩ = some (.int .i64 c.at') ∧ w.cell? ⟨gw, n * 11 + 4, none⟩ = some (.int .i64 c.ba) ∧ w.cell? ⟨gw, n * 11 + 5, none⟩ = some (.int .i64 c.ca) ∧ w.cell? ⟨gw, n * 11 + 6, none⟩ = some (.int .i64 c.ti) ∧ w.cell? ⟨gw, n * 11 + 7, none⟩ = some (.int .i64 c.wi) ∧ w.cell? ⟨gw, n * 11 + 8, none⟩ = some (.int .i64 c.le) ∧ w.cell? ⟨gw, n * 11 + 9, none⟩ = some (.float .f64 c.th) ∧ w.cell? ⟨gw, n * 11 + 10, none⟩ = some (.int .i64 c.op) := ⟨(h.blk.1.cell _).trans (hc.cell 0 _ rfl), (h.blk.1.cell _).trans (hc.cell 1 _ rfl), (h.blk.1.cell _).trans (hc.cell 2 _ rfl), (h.blk.1.cell _).trans (hc.cell 3 _ rfl), (h.blk.1.cell _).trans (hc.cell 4 _ rfl), (h.blk.1.cell _).trans (hc.cell 5 _ rfl), (h.blk.1.cell _).trans (hc.cell 6 _ rfl), (h.blk.1.cell _).trans (hc.cell 7 _ rfl), (h.blk.1.cell _).trans (hc.cell 8 _ rfl), (h.blk.1.cell _).trans (hc.cell 9 _ rfl), (h.blk.1.cell _).trans (hc.cell 10 _ rfl)⟩
  by_cases hg : GoodC c D
  · obtain ⟨b, nb, rfl, hO, hnb⟩ : ∃ b nb, m = some b ∧ OM w b nb D ∧ nb ≤ big := by
      rcases hc.map with ⟨_, e⟩ | q
      · exact absurd hg.2.1.1.1 (by rw [e]; simp [Maps.size])
      · exact q
    obtain ⟨pv, tv, sv0, mv, np, nt, ns0, nm, tt, ps, ag, rf, pd⟩ := X
    obtain ⟨pa, pk, epv, _⟩ := h.prs.shape
    dsimp only at epv hnp
    subst epv
    refine (opened_good L (2 * np + 1) (by omega) z n gw hn hpk c b nb D cur pa np pk ps w hO hnb hg h.blk h.c22 h.prs hnp hcells).mono ?_
    rintro e w' ⟨rfl, gp, gx, gs, scap, B, C, L1, ns, pa', pk', hK, hrow, hat, hraw, hAg, hpm, hso, hB0, hBC, hC1, hL1, hLn, hkept⟩
    obtain ⟨gy, ss, L0, hgpB, hgpC, hkp, hRA, hLb, hss, hsrt, hsr, hgsC, hgsn⟩ := hraw
    have hgsB : B ≤ gs := (hsr.lt gs (by simp [Value.ownBlock])).1
    have hns : ss = ns := sorted_names hss hpm hsrt hso
    have hgwl := h.blk.1.lt
    have hpl : ps.length = np := by have := h.prs.1.1; dsimp only at this; omega
    generalize hrb : (Value.slice pa' (np + 1) pk').ownBlock = rb at *
    have hS : Step opP L w (pairLabs L1 L0 B gp gs np rb) w' := by
      refine ⟨hkept.os, hkept.tape, hkept.output, hkept.size, fun k hk => by rw [pairLabs_old (by omega)]; exact hL1 k hk, fun k hk hne => hkept.block k hk (fun e => hne ?_) (fun e => hne ?_)⟩
      · rw [e, h.blk.2]; exact Or.inr rfl
      · rw [h.prs.2 k e.symm]; exact Or.inl rfl
    have hin := inv_new hO hg hpm
    refine ⟨rfl, pairLabs L1 L0 B gp gs np rb, cur.setIfInBounds 22 (.slice pa' (np + 1) pk'), ⟨.slice pa' (np + 1) pk', tv, sv0, mv, np + 1, nt, ns0, nm, tt, ps ++ [.pointer (some ⟨gp, 0, none⟩)], upd ag np (Ag.new c D ns), upd rf np (Rf.new c (some b) D ss), upd pd np ⟨c, some b, D, .slice (some ⟨gs, 0, none⟩) 1 scap, .string ⟨#[]⟩, [⟨0, [], []⟩]⟩⟩, ?_, Or.inr ⟨hg, _, _, ns, ss, _, rfl, hns, hso, hin⟩, fun i hi => by rw [Array.getElem?_setIfInBounds_ne (fun e => hi e.symm)], hS⟩
    have hl22 := (Array.getElem?_eq_some_iff.1 h.c22).1
    refine ⟨⟨hK, by rw [pairLabs_old (by omega), hL1 gw hgwl]; exact h.blk.2⟩, by simp [hl22], by rw [Array.getElem?_setIfInBounds_ne (by omega)]; exact h.c23, by rw [Array.getElem?_setIfInBounds_ne (by omega)]; exact h.c24, by rw [Array.getElem?_setIfInBounds_ne (by omega)]; exact h.c25, ⟨hrow, fun q hq => ?_⟩, fun i v hv => ?_,
      h.txt.keep hS (by simp [opP, bl]) (fun i _ => by simp [opP, bl]), h.snd.keep hS (by simp [opP, bl]) (fun i _ => by simp [opP, bl]), h.mps.keep hS (by simp [opP, bl]) (fun i _ => by simp [opP, bl]), h.err.keep hS (by simp [opP])⟩
    · have hq' : rb = some q := hrb.symm.trans hq
      rcases hat q hq' with e | e
      · have hql : q < w.heap.size := (h.prs.1.lt q e).2
        rw [pairLabs_old (by omega), hL1 q hql]
        exact h.prs.2 q e
      · have hn0 : L0 q = none := by
          cases e0 : L0 q with
          | none => rfl
          | some l => have := (hLb q l e0).2.1; omega
        simp only [pairLabs]
        rw [if_neg (by omega), if_neg (by omega), if_neg (by omega), hn0]
        simp [hq']
    · have hv' : (ps ++ [Value.pointer (some ⟨gp, 0, none⟩)])[i]? = some v := hv
      by_cases hil : i < ps.length
      · rw [List.getElem?_append_left hil] at hv'
        obtain ⟨gp', e', hP'⟩ := h.pr i v hv'
        refine ⟨gp', e', ?_⟩
        show PairAt w' _ i gp' tt (upd ag np _ i) (upd rf np _ i) (upd pd np _ i)
        rw [upd_other _ _ (by omega), upd_other _ _ (by omega), upd_other _ _ (by omega)]
        exact hP'.keep hS (by simp [opP]) (fun k n hk h => by simp [opP, bl] at h; omega) (fun q => by simp [opP, bl]) (fun q => by simp [opP, bl]) (Nat.le_refl _)
      · rw [List.getElem?_append_right (by omega)] at hv'
        have e0 : i - ps.length = 0 := by
          have := (List.getElem?_eq_some_iff.1 hv').1
          simp at this; omega
        rw [e0] at hv'
        obtain rfl : i = np := by omega
        simp at hv'
        refine ⟨gp, hv'.symm, ?_⟩
        show PairAt w' _ i gp tt (upd ag i _ i) (upd rf i _ i) (upd pd i _ i)
        rw [upd_self, upd_self, upd_self]
        have hgsl : pairLabs L1 L0 B gp gs i rb gs = bl 9 i := by
          simp only [pairLabs]
          rw [if_neg (by omega), if_neg hgsn, if_pos trivial]
        refine ⟨gx, gy, ⟨hkp, ?_⟩, hAg.shift (fun k q hk => ?_), hRA.shift (fun k q hk => ?_), sim_new hns, hin.more (Nat.zero_le _), ⟨[(.slice none 0 0, .slice none 0 0)], rfl, ⟨ownsRow_same hsr (fun _ _ => rfl) (Nat.zero_le _), fun q hq => ?_⟩, fun j s f hs hf => ?_⟩, ?_⟩
        · simp only [pairLabs]
          rw [if_neg (by omega), if_pos trivial]
        · by_cases hkB : k < B
          · rw [pairLabs_old hkB]; exact hk
          · rw [hLn k (by omega)] at hk; cases hk
        · obtain ⟨r1, r2, r3, r4⟩ := hLb k _ hk
          simp only [pairLabs]
          rw [if_neg (by omega), if_neg r3, if_neg r4, hk]
        · obtain rfl : gs = q := by simpa [Value.ownBlock] using hq
          exact hgsl
        · match j with
          | 0 =>
            simp at hs hf
            subst hs
            subst hf
            exact ⟨⟨none, 0, rfl, RowAt.nil _ _ _ _ _⟩, none, 0, rfl, RowAt.nil _ _ _ _ _, fun _ => ⟨rfl, rfl⟩⟩
          | j + 1 => simp at hs
        · have hmn : MapN w L (some b) D := ⟨hc.map, hc.lab⟩
          exact hmn.keep hS (by simp [opP])
  · refine (opened_bad z n gw hn hpk A c m D w h.err.hs hc.map hg hcells).mono ?_
    rintro e w' ⟨rfl, hb⟩
    exact ⟨rfl, L, cur, X, h.below hb, Or.inl ⟨rfl, hg⟩, fun _ _ => rfl, Step.of_below hb⟩
end Go.Proofs.YtojpjaifhjigfaaGreatDoor

/- pick, lasts. -/
namespace Go.Proofs.YtojpjaifhjigfaaGreatDoor
open Go.RowKit Go.Maps

/-- Which of n things a number speaks of. -/
def pickN (z : Int) (n : Nat) : Nat := (if z < 0 then (-(z + 1)).toNat else z.toNat) % n
theorem pickN_lt (z : Int) {n : Nat} (h : 0 < n) : pickN z n < n := Nat.mod_lt _ h

theorem pick_neg {z : Int} (n : Nat) (h : z < 0) : -(z + 1).tmod n = (pickN z n : Int) := by
  have e : z + 1 = -((-(z + 1)).toNat : Int) := by omega
  unfold pickN
  rw [if_pos h]
  generalize (-(z + 1)).toNat = k at *
  rw [e, Int.neg_tmod, Int.neg_neg]
  rfl
theorem pick_pos {z : Int} (n : Nat) (h : 0 ≤ z) : z % n = (pickN z n : Int) := by
  unfold pickN
  rw [if_neg (by omega)]
  obtain ⟨k, rfl⟩ := Int.eq_ofNat_of_zero_le h
  simp

set_option maxHeartbeats 1000000 in
theorem pick_any (z : Int) (n : Nat) (w : World) (h0 : -9223372036854775808 ≤ z) (h1 : z ≤ 9223372036854775807) (hn : 0 < n) : Calls Tryz.prog 40 #[.int .i64 z, .int .i64 n] w fun e w' => e = .returned (.int .i64 (pickN z n)) ∧ w' = w := by
  have hn0 : ¬ ((n : Int) = 0) := by omega
  by_cases hz : z < 0
  · go_enter Tryz.func40, Tryz.ntmps40
    go_wp2
    go_ret
    exact ⟨ret_int (pick_neg n hz), rfl⟩
  · go_enter Tryz.func40, Tryz.ntmps40
    go_wp2
    go_ret
    exact ⟨ret_int (pick_pos n hz), rfl⟩

set_option maxRecDepth 100000 in
set_option maxHeartbeats 1000000 in
theorem lasts_any (L : Labs) (who g : Nat) (R : Rf) (w : World) (h : RefAt w L who g R) (hb : R.rs.length ≤ 120) (hbd : ∀ b ∈ R.bs, 0 ≤ b.st ∧ b.st ≤ 3 ∧ 0 ≤ b.fl ∧ b.fl ≤ 10) :
    Calls Tryz.prog 47 #[.pointer (some ⟨g, 0, none⟩)] w fun e w' => e = .returned (.int .i64 (lastsOf R.bs)) ∧ Below w.heap.size w w' := by
  obtain ⟨nv, qv, bv, dv, la, lk, h⟩ := h
  obtain ⟨ta, tc, rfl, _⟩ := h.tk.shape
  have c13 : Hid (w.cell? ⟨g, 13, none⟩ = some (.slice ta R.rs.length tc)) := h.blk.1.cell 13
  have HT := hide h.tk
  have hgl := h.blk.1.lt
  have hbl : R.bs.length = R.rs.length := by simp [Rf.bs]
  generalize hn : R.rs.length = n at *
  have Hn := hide hn
  have Hbl := hide hbl
  have HBd := hide hbd
  clear h hn hbl hbd
  go_enter Tryz.func47, Tryz.ntmps47
  go_wp2_with fail
  go_loopw [3, 4] (fun q i wr => ∃ (k : Nat), k ≤ n ∧ i = .int .i64 k ∧ q = .int .i64 (lastsOf (R.bs.take k)) ∧ Below w.heap.size w wr) (fun _ i _ => n - (intOf i).toNat)
  case atStart => exact ⟨0, Nat.zero_le _, rfl, rfl, Below.refl _ _⟩
  case round =>
    obtain ⟨k, hk, rfl, rfl, hnx⟩ := hrel
    have Hnx := hide hnx
    have d13 : wr.cell? ⟨g, 13, none⟩ = some (.slice ta n tc) := (hnx.cell (p := ⟨g, 13, none⟩) hgl).trans c13.out
    clear hnx
    by_cases hlt : k < n
    · have hltI : (k : Int) < (n : Int) := by omega
      obtain ⟨gt, rfl, hgt, _, hct, _⟩ := HT.out.head (by omega)
      obtain ⟨r, hr⟩ : ∃ r, R.rs[k]? = some r := ⟨_, List.getElem?_eq_getElem (by rw [Hn.out]; exact hlt)⟩
      have e4 : wr.cell? ⟨gt, k * 8 + 4, none⟩ = some (.int .i64 r.b.st) := (Hnx.out.cell (p := ⟨gt, _, none⟩) hgt).trans (hct _ _ (RBat.cell hr (by omega) rfl))
      have e5 : wr.cell? ⟨gt, k * 8 + 5, none⟩ = some (.int .i64 r.b.fl) := (Hnx.out.cell (p := ⟨gt, _, none⟩) hgt).trans (hct _ _ (RBat.cell hr (by omega) rfl))
      obtain ⟨b1, b2, b3, b4⟩ := HBd.out r.b (List.mem_of_getElem? (Rf.get hr))
      have z1 := lastsOf_bd (R.bs.take k) (fun b hb => HBd.out b (List.mem_of_mem_take hb))
      have hzl : (R.bs.take k).length = k := by rw [List.length_take, Hbl.out]; omega
      rw [hzl] at z1
      have HNx : Hid (lastsOf (R.bs.take (k + 1)) = lastsOf (R.bs.take k) + 100 + 20 * r.b.st + r.b.fl) := by
        obtain ⟨hkb, e⟩ := List.getElem?_eq_some_iff.1 (Rf.get hr)
        show _ = _
        rw [List.take_succ_eq_append_getElem hkb, lastsOf_snoc, e]
        omega
      generalize lastsOf (R.bs.take k) = z at *
      generalize r.b.st = st at *
      generalize r.b.fl = fl at *
      obtain ⟨z1, z2⟩ := z1
      clear hct hr hzl
      go_wp2_with fail
      go_quiet (fail)
      go_wp2_with fail
      go_roundw
      case rel => exact ⟨k + 1, by omega, by go_num, by rw [HNx.out], below_drewN Hnx.out _⟩
      case measure => simp [intOf]; omega
    · go_wp2_with fail
      go_ret
      exact ⟨ret_int (by rw [List.take_of_length_le (by rw [Hbl.out]; omega)]), Hnx.out⟩
end Go.Proofs.YtojpjaifhjigfaaGreatDoor
