/- Steps of the proof (several texts in one): OpenedNew, LawOpened. -/
import Derived.Test.YtojpjaifhjigfaaGreatDoorMTakenupto06

/- (*World).opened of a configuration that is one: a new pair is among the pairs. -/
namespace Go.Proofs.YtojpjaifhjigfaaGreatDoor
open Go.RowKit Go.Maps
attribute [local go_sem] run_store_float

theorem infoPairP : (Tryz.prog.info? 97).map (fun i => (i.zero, i.size, i.bytes)) = some (some (.pointer none), 1, 8) := by kernel_rfl
theorem infoStand : (Tryz.prog.info? 105).map (fun i => (i.zero, i.size, i.bytes)) = some (some (.agg #[.int .i64 0, .slice none 0 0, .slice none 0 0]), 3, 56) := by kernel_rfl

/-- The cells of a pair. -/
abbrev pairCells (gx gy : Nat) (c : Cfg) (m : Option Nat) (sv lg : Value) : Array Value :=
  #[.pointer (some ⟨gx, 0, none⟩), .pointer (some ⟨gy, 0, none⟩), .int .i64 c.d, .map m, .int .i64 c.q, .int .i64 c.at', .int .i64 c.ba, .int .i64 c.ca, .int .i64 c.ti, .int .i64 c.wi, .int .i64 c.le, .float .f64 c.th, .int .i64 c.op, sv, lg]

/-- What stays: all old blocks but gw and one row. -/
structure Kept (w w' : World) (gw : Nat) (row : Option Nat) : Prop where
  os : w'.os = w.os
  tape : w'.tape = w.tape
  output : w'.output = w.output
  size : w.heap.size ≤ w'.heap.size
  block : ∀ k, k < w.heap.size → k ≠ gw → some k ≠ row → w'.heap[k]? = w.heap[k]?

/-- Pair gp, its program's agent gx and its document's agent gy, which has taken nothing. -/
def PairRaw (w : World) (B gp gx : Nat) (c : Cfg) (m : Option Nat) (D : DataW Unit) : Prop := ∃ gy nv ss qv la lk sv lg, B ≤ gp ∧ B ≤ gy ∧ Blk w gp (pairCells gx gy c m sv lg) 102 ∧
  Blk w gy (refCells c m nv qv (.slice none 0 0) (.slice none 0 0) (.slice la c.d.toNat lk) 0) 109 ∧ Texts w B nv ss ∧ ss.Perm (strKeys D)

/-- A pair that was just made: no stand yet, an empty log. -/
def PairNew (w w' : World) (gp gx : Nat) (c : Cfg) (m : Option Nat) (D : DataW Unit) : Prop := ∃ gy nv ss qv la lk, w.heap.size ≤ gp ∧ w.heap.size ≤ gy ∧ gy ≠ gp ∧ Blk w' gp (pairCells gx gy c m (.slice none 0 0) (.string ⟨#[]⟩)) 102 ∧
  Blk w' gy (refCells c m nv qv (.slice none 0 0) (.slice none 0 0) (.slice la c.d.toNat lk) 0) 109 ∧ Texts w' w.heap.size nv ss ∧ ss.Perm (strKeys D) ∧ Below w.heap.size w w'

theorem texts_set {w : World} {B : Nat} {v : Value} {ss : List (List UInt8)} (h : Texts w B v ss) {g : Nat} (hg : ∀ cur, ¬ Blk w g cur 9) (i : Nat) (u : Value) : Texts (w.setCell ⟨g, i, none⟩ u) B v ss := by
  refine ⟨h.1, ?_⟩
  rcases h.2 with h1 | ⟨g', cap, cur, h1, h2, h3, h4⟩
  · exact Or.inl h1
  · refine Or.inr ⟨g', cap, cur, h1, h2, ?_, h4⟩
    rw [heap_setCell_other _ _ _ _ (fun e => hg cur (by have e' : g' = g := e; rw [← e']; exact h3))]
    exact h3
theorem Blk.notT {w : World} {g : Nat} {cur cur' : Array Value} {t t' : TypeId} (h : Blk w g cur t) (hne : t ≠ t') : ¬ Blk w g cur' t' := fun h' => by
  unfold Blk at h h'
  rw [h] at h'
  simp only [Option.some.injEq, Obj.cells.injEq] at h'
  exact hne h'.2.1

theorem ownsRow_below {w w' : World} {B : Nat} {e : TypeId} {size : Nat} {v : Value} {n : Nat} {xs : List Value} (h : w.ownsRow B e size v n xs) (hb : Below w.heap.size w w') : w'.ownsRow B e size v n xs := by
  refine ⟨h.1, ?_⟩
  rcases h.2 with h1 | ⟨g, cap, cur, h1, h2, h3, h4⟩
  · exact Or.inl h1
  · exact Or.inr ⟨g, cap, cur, h1, h2, by rw [hb.block g (Array.getElem?_eq_some_iff.1 h3).1]; exact h3, h4⟩
theorem pairRaw_keep {w w' : World} {B gp gx : Nat} {c : Cfg} {m : Option Nat} {D : DataW Unit} (h : PairRaw w B gp gx c m D) (hk : ∀ k cur t, B ≤ k → Blk w k cur t → (t = 102 ∨ t = 109 ∨ t = 9) → Blk w' k cur t) : PairRaw w' B gp gx c m D := by
  obtain ⟨gy, nv, ss, qv, la, lk, sv, lg, h1, h2, h3, h4, h5, h6⟩ := h
  refine ⟨gy, nv, ss, qv, la, lk, sv, lg, h1, h2, hk _ _ _ h1 h3 (Or.inl rfl), hk _ _ _ h2 h4 (Or.inr (Or.inl rfl)), ⟨h5.1, ?_⟩, h6⟩
  rcases h5.2 with q1 | ⟨g, cap, cur, q1, q2, q3, q4⟩
  · exact Or.inl q1
  · exact Or.inr ⟨g, cap, cur, q1, q2, hk _ _ _ q2 q3 (Or.inr (Or.inr rfl)), q4⟩
theorem pairRaw_after' {w w9 : World} {B gp gx gw : Nat} {c : Cfg} {m : Option Nat} {D : DataW Unit} {o : Obj} {pa : Option Addr} {k pk : Nat} {ps : List Value} (h : PairRaw w B gp gx c m D) (hg : (w.alloc o).grownBy w9 (Value.ownBlock (.slice pa k pk)))
    (hr : w.ownsRow 0 97 1 (.slice pa k pk) k ps) (hB : gw < B) (i : Nat) (u : Value) : PairRaw (w9.setCell ⟨gw, i, none⟩ u) B gp gx c m D :=
  pairRaw_keep h fun q cur t hq hb ht => by
    have hb1 := hb.alloc o
    have hne : some q ≠ Value.ownBlock (.slice pa k pk) := fun e => by
      rcases hr.2 with ⟨h1, _⟩ | ⟨g, cap, cur', h1, _, h3, _⟩
      · rw [h1] at e; cases e
      · rw [h1] at e
        have e' : q = g := by simpa [Value.ownBlock] using e
        subst e'
        have := Blk.notT (cur' := cur') (t' := 97) hb (by rcases ht with rfl | rfl | rfl <;> decide)
        exact this h3
    exact (hb1.grown hg hne).other _ _ (by show q ≠ gw; omega)

/-- What opened leaves of a configuration that is one. -/
def OpenedPost (L : Labs) (who gw : Nat) (cur : Array Value) (c : Cfg) (b : Nat) (D : DataW Unit) (pa : Option Addr) (k pk : Nat) (ps : List Value) (w : World) (e : Ending) (w' : World) : Prop := e = .returned (.bool true) ∧
  ∃ gp gx B L1 ns pa' pk', Blk w' gw (cur.setIfInBounds 22 (.slice pa' (k + 1) pk')) 38 ∧ w'.ownsRow 0 97 1 (.slice pa' (k + 1) pk') (k + 1) (ps ++ [.pointer (some ⟨gp, 0, none⟩)]) ∧ (∀ q, (Value.slice pa' (k + 1) pk').ownBlock = some q → (Value.slice pa k pk).ownBlock = some q ∨ B ≤ q) ∧
    PairRaw w' B gp gx c (some b) D ∧ AgentAt w' L1 who gx (Ag.new c D ns) ∧ ns.Perm (strKeys D) ∧ ns.Pairwise (fun x y => x ≤ y) ∧ w.heap.size ≤ B ∧ B ≤ w'.heap.size ∧ (∀ q, q < w.heap.size → L1 q = L q) ∧ (∀ q, B ≤ q → L1 q = none) ∧ Kept w w' gw (Value.ownBlock (.slice pa k pk))

set_option maxHeartbeats 400000 in
theorem log_any (L : Labs) (who g : Nat) (M : Ag) (w : World) (h : AgentAt w L who g M) : Calls Tryz.prog 33 #[.pointer (some ⟨g, 0, none⟩)] w fun e w' => e = .returned (encStr M.log) ∧ w' = w := by
  obtain ⟨bq, bm, cn, tv, dv, nv, rv, ov, h⟩ := h
  have c3 : w.cell? ⟨g, 3, none⟩ = some (encStr M.log) := h.blk.1.cell 3
  clear h
  go_enter Tryz.func33, Tryz.ntmps33
  go_wp2
  go_ret
  exact ⟨rfl, rfl⟩

set_option maxRecDepth 100000 in
set_option maxHeartbeats 4000000 in
theorem opened_good (L : Labs) (who : Nat) (hw0 : 1 ≤ who) (z : Int) (n gw : Nat) (hn : n < 2) (hpk : PickIs z n) (c : Cfg) (b nb : Nat) (D : DataW Unit) (cur : Array Value) (pa : Option Addr) (k pk : Nat) (ps : List Value) (w : World) (hown : OM w b nb D) (hnb : nb ≤ big) (hg : GoodC c D)
    (hcur : BlkAt w L (bl 2 0) gw cur 38) (hpc : cur[22]? = some (.slice pa k pk)) (hrow : RowAt w L (bl 7 0) 97 1 (.slice pa k pk) k ps) (hk : k ≤ 8000000)
    (hcfg : w.cell? ⟨gw, n * 11, none⟩ = some (.int .i64 c.d) ∧ w.cell? ⟨gw, n * 11 + 1, none⟩ = some (.map (some b)) ∧ w.cell? ⟨gw, n * 11 + 2, none⟩ = some (.int .i64 c.q) ∧ w.cell? ⟨gw, n * 11 + 3, none⟩ = some (.int .i64 c.at') ∧ w.cell? ⟨gw, n * 11 + 4, none⟩ = some (.int .i64 c.ba) ∧ w.cell? ⟨gw, n * 11 + 5, none⟩ = some (.int .i64 c.ca) ∧ w.cell? ⟨gw, n * 11 + 6, none⟩ = some (.int .i64 c.ti) ∧ w.cell? ⟨gw, n * 11 + 7, none⟩ = some (.int .i64 c.wi) ∧ w.cell? ⟨gw, n * 11 + 8, none⟩ = some (.int .i64 c.le) ∧ w.cell? ⟨gw, n * 11 + 9, none⟩ = some (.float .f64 c.th) ∧ w.cell? ⟨gw, n * 11 + 10, none⟩ = some (.int .i64 c.op)) :
    Calls Tryz.prog 16 #[.pointer (some ⟨gw, 0, none⟩), .int .i64 z] w fun e w' => OpenedPost L who gw cur c b D pa k pk ps w e w' := by
  obtain ⟨e0, e1, e2, e3, e4, e5, e6, e7, e8, e9, e10⟩ := hcfg
  have HC := hide hcur
  have HPk := hide hpk
  have HP := hide hpc
  have HR := hide hrow
  have HO := hide hown
  have HG := hide hg
  have hgw := World.block_lt_of_cell? w _ e0
  have hbl := hown.lt
  have hnI : (n : Int) < 2 := by omega
  have hn0 : (0 : Int) ≤ (n : Int) := by omega
  have hnn := fun w => run_neq_map_nil (P := Tryz.prog) w 22 9 3 (some b) Tryz.underlying22
  have hmm := @run_makeMap Tryz.prog
  clear hcur hpc hrow hown hg hpk
  go_enter Tryz.func16, Tryz.ntmps16
  go_upto_region 1 with fail
  go_cut [5] (fun s5 wx => s5 = .pointer (some ⟨w.heap.size, 0, none⟩) ∧ wx = (w.alloc (.cells (c.cells (some b)) 25)).drew)
  case first =>
    go_region_held3 (fun w' => w'.cell? ⟨gw, n * 11, none⟩ = some (.int .i64 c.d) ∧ w'.cell? ⟨gw, n * 11 + 1, none⟩ = some (.map (some b)) ∧ w'.cell? ⟨gw, n * 11 + 2, none⟩ = some (.int .i64 c.q) ∧ w'.cell? ⟨gw, n * 11 + 3, none⟩ = some (.int .i64 c.at') ∧ w'.cell? ⟨gw, n * 11 + 4, none⟩ = some (.int .i64 c.ba) ∧ w'.cell? ⟨gw, n * 11 + 5, none⟩ = some (.int .i64 c.ca) ∧ w'.cell? ⟨gw, n * 11 + 6, none⟩ = some (.int .i64 c.ti) ∧ w'.cell? ⟨gw, n * 11 + 7, none⟩ = some (.int .i64 c.wi) ∧ w'.cell? ⟨gw, n * 11 + 8, none⟩ = some (.int .i64 c.le) ∧ w'.cell? ⟨gw, n * 11 + 9, none⟩ = some (.float .f64 c.th) ∧ w'.cell? ⟨gw, n * 11 + 10, none⟩ = some (.int .i64 c.op)) (go_keep)
      (first
        | (go_at_call 40; refine (HPk.out _).mono ?_; rintro e w1 ⟨rfl, rfl⟩))
    all_goals (go_wp2_with fail; go_meet; exact ⟨rfl, rfl⟩)
  case rest =>
  obtain ⟨rfl, hwc⟩ := hcut
  have hK0 : Blk wc w.heap.size (c.cells (some b)) 25 := by rw [hwc]; exact Blk.new w _ _
  have hz0 : wc.heap.size = w.heap.size + 1 := by rw [hwc]; simp
  have hB0 : Below w.heap.size w wc := by rw [hwc]; exact ((Below.refl _ _).alloc (Nat.le_refl _) _).drew
  clear hwc e0 e1 e2 e3 e4 e5 e6 e7 e8 e9 e10
  obtain ⟨e0, e1, e2, e3, e4, e5, e6, e7, e8, e9, e10⟩ : wc.cell? ⟨w.heap.size, 0, none⟩ = some (.int .i64 c.d) ∧ wc.cell? ⟨w.heap.size, 1, none⟩ = some (.map (some b)) ∧ wc.cell? ⟨w.heap.size, 2, none⟩ = some (.int .i64 c.q) ∧ wc.cell? ⟨w.heap.size, 3, none⟩ = some (.int .i64 c.at') ∧ wc.cell? ⟨w.heap.size, 4, none⟩ = some (.int .i64 c.ba) ∧ wc.cell? ⟨w.heap.size, 5, none⟩ = some (.int .i64 c.ca) ∧ wc.cell? ⟨w.heap.size, 6, none⟩ = some (.int .i64 c.ti) ∧ wc.cell? ⟨w.heap.size, 7, none⟩ = some (.int .i64 c.wi) ∧ wc.cell? ⟨w.heap.size, 8, none⟩ = some (.int .i64 c.le) ∧ wc.cell? ⟨w.heap.size, 9, none⟩ = some (.float .f64 c.th) ∧ wc.cell? ⟨w.heap.size, 10, none⟩ = some (.int .i64 c.op) := ⟨hK0.cell 0, hK0.cell 1, hK0.cell 2, hK0.cell 3, hK0.cell 4, hK0.cell 5, hK0.cell 6, hK0.cell 7, hK0.cell 8, hK0.cell 9, hK0.cell 10⟩
  have HK0 := hide hK0
  have HB0 := hide hB0
  have Hz0 := hide hz0
  have hlt0 : w.heap.size < wc.heap.size := hK0.lt
  clear hK0 hB0 hz0
  have hownc : OM wc b nb D := om_below HO.out HB0.out hbl
  have hblc : b < wc.heap.size := hownc.lt
  have hsize : Maps.size D ≤ nb := hownc.size_le
  go_wp2_with (first
    | (at_range; refine wpList_range_own _ rfl _ 22 rfl 9 3 lawS Tryz.underlying22 _ b nb _ rfl ((hownc.alloc _).alloc _) ?_; intro w0 hrg0 hg0 hs0)
    | fail)
  try go_frame
  try simp only [World.size_alloc] at hrg0 ⊢
  generalize hN : wc.heap.size = N at *
  have HNe := hide hN
  have hw0K : Blk w0 N (c.cells (some (N + 1))) 25 := by
    have h1 := ((Blk.made hN (c.cells (some (N + 1))) 25).alloc (.map #[] 0)).grown hg0 (by simp)
    exact h1
  have hw0M : OM w0 (N + 1) 0 (.map []) := (om_new (by simp [hN])).kept hg0 (by simp)
  have hw0B : Below N wc w0 := (((Below.refl _ _).alloc (by omega) _).alloc (by simp; omega) _).grown hg0 (by simp; omega) (fun j hj => by cases hj)
  have HK := hide hw0K
  have HM := hide hw0M
  have HB := hide hw0B
  clear hw0K hw0M hw0B hg0 hs0 hN e0 e1 e2 e3 e4 e5 e6 e7 e8 e9 e10
  go_loopw [7] (fun _ wr => ∃ (left : Lit → Bool) (cnt : Nat) (Dout : DataW Unit), RG wr b (N + 1 + 1) nb D left cnt ∧ cnt ≤ Maps.size D ∧ OM wr (N + 1) (Maps.size D - cnt) Dout ∧ Agree Dout D left ∧
      Blk wr N (c.cells (some (N + 1))) 25 ∧ Below N wc wr) (fun _ wr => wr.rangeLeft b (N + 1 + 1))
  case atStart => exact ⟨_, _, .map [], hrg0, Nat.le_refl _, HM.out.mono (Nat.zero_le _), agree_start D, HK.out, HB.out⟩
  case round =>
    obtain ⟨left, cnt, Dout, hrg, hcs, hout, hA, hK, hnx⟩ := hrel
    have Hout := hide hout
    have HA := hide hA
    have HK1 := hide hK
    have Hnx := hide hnx
    have hNw : N < wr.heap.size := hK.lt
    have e1 : wr.cell? ⟨N, 1, none⟩ = some (.map (some (N + 1))) := hK.cell 1
    clear hout hA hK hnx
    go_wp2_with (first
      | (at_next; refine wpList_next_ranges _ rfl _ rfl 9 lawS (plainElem Tryz.prog 3) encStr (Value.int .i64) invK invV b (N + 1 + 1) nb _ _ _ rfl hrg ?_ ?_)
      | fail)
    · intro hc0 hl0
      have hE : Dout = D := agree_end HA.out hl0 (Hout.out.canon lawS) (HO.out.canon lawS)
      subst hE
      clear hl0 e1
      have hNw' : N ≤ wr.heap.size := by omega
      have hwN : w.heap.size < N := by have := HNe.out; omega
      have HBw : Hid (Below w.heap.size w wr) := HB0.out.trans (Hnx.out.mono (by omega))
      have HKc : Hid (Blk wr w.heap.size (c.cells (some b)) 25) := HK0.out.below Hnx.out hwN
      have HMo : Hid (OM wr (N + 1) big Dout) := Hout.out.mono (by unfold big at *; omega)
      have HMb : Hid (OM wr b nb Dout) := om_below hownc Hnx.out (by have := HNe.out; omega)
      clear Hout hownc hrg hcs hrg0
      go_wp2_with (first
        | (refine wpList_load_mid rfl 25 _ rfl N 0 rfl (c.cells (some (N + 1))).toList _ (HK1.out.range 0 _ rfl) Tryz.underlying25 rfl infoConfig ?_)
        | fail)
      refine (open_good (fun q => if q < w.heap.size then L q else none) who c (some (N + 1)) Dout _ (Or.inr ⟨N + 1, big, rfl, HMo.out, Nat.le_refl _⟩) HG.out).mono ?_
      rintro e w3 ⟨gx, L1, ns, rfl, hA3, hpm3, hso3, hb3, _, hL1, hLn⟩
      have HA3 := hide hA3
      have Hpm3 := hide hpm3
      have Hso3 := hide hso3
      have HL1 : Hid (∀ q, q < w.heap.size → L1 q = L q) := fun q hq => by rw [hL1 q (by omega)]; simp [hq]
      have HLN : Hid (L1 (N + 1) = none) := by rw [hL1 (N + 1) HMo.out.lt]; exact if_neg (by omega)
      have HLn := hide hLn
      clear hA3 hpm3 hso3 hL1 hLn
      have HBw3 : Hid (Below w.heap.size w w3) := HBw.out.trans (hb3.mono HBw.out.size)
      have HKc3 : Hid (Blk w3 w.heap.size (c.cells (some b)) 25) := HKc.out.below hb3 HKc.out.lt
      have HKo3 : Hid (Blk w3 N (c.cells (some (N + 1))) 25) := HK1.out.below hb3 HK1.out.lt
      have HMo3 : Hid (OM w3 (N + 1) big Dout) := om_below HMo.out hb3 HMo.out.lt
      have HMb3 : Hid (OM w3 b nb Dout) := om_below HMb.out hb3 HMb.out.lt
      have hz3 : wr.heap.size ≤ w3.heap.size := hb3.size
      clear hb3
      go_wp2_with (first
        | (refine wpList_load_mid rfl 25 _ rfl w.heap.size 0 rfl (c.cells (some b)).toList _ (HKc3.out.range 0 _ rfl) Tryz.underlying25 rfl infoConfig ?_)
        | fail)
      refine (good_any c (some b) Dout _ (Or.inr ⟨b, nb, rfl, HMb3.out, hnb⟩)).mono ?_
      rintro e w4 ⟨⟨r4, rfl, hr4⟩, hb4⟩
      have hr4' : r4 = true := hr4.2 HG.out
      subst hr4'
      clear hr4
      have HBw4 : Hid (Below w.heap.size w w4) := HBw3.out.trans (hb4.mono HBw3.out.size)
      have HA4 : Hid (AgentAt w4 L1 who gx (Ag.new c Dout ns)) := HA3.out.keep (Step.of_below (p := fun _ => False) hb4) (fun _ h => h)
      have HKc4 : Hid (Blk w4 w.heap.size (c.cells (some b)) 25) := HKc3.out.below hb4 HKc3.out.lt
      have HKo4 : Hid (Blk w4 N (c.cells (some (N + 1))) 25) := HKo3.out.below hb4 HKo3.out.lt
      have HMo4 : Hid (OM w4 (N + 1) big Dout) := om_below HMo3.out hb4 HMo3.out.lt
      have HMb4 : Hid (OM w4 b nb Dout) := om_below HMb3.out hb4 HMb3.out.lt
      have k41 : w4.cell? ⟨N, 1, none⟩ = some (.map (some (N + 1))) := HKo4.out.cell 1
      have hz4 : w3.heap.size ≤ w4.heap.size := hb4.size
      clear hb4
      go_wp2_with (first
        | (refine wpList_load_mid rfl 25 _ rfl w.heap.size 0 rfl (c.cells (some b)).toList _ (HKc4.out.range 0 _ rfl) Tryz.underlying25 rfl infoConfig ?_)
        | fail)
      refine (same_some c (N + 1) b big nb Dout _ HMo4.out HMb4.out).mono ?_
      rintro e w5 ⟨rfl, hb5⟩
      have HBw5 : Hid (Below w.heap.size w w5) := HBw4.out.trans (hb5.mono HBw4.out.size)
      have HA5 : Hid (AgentAt w5 L1 who gx (Ag.new c Dout ns)) := HA4.out.keep (Step.of_below (p := fun _ => False) hb5) (fun _ h => h)
      have HKc5 : Hid (Blk w5 w.heap.size (c.cells (some b)) 25) := HKc4.out.below hb5 HKc4.out.lt
      have HKo5 : Hid (Blk w5 N (c.cells (some (N + 1))) 25) := HKo4.out.below hb5 HKo4.out.lt
      have HMb5 : Hid (OM w5 b nb Dout) := om_below HMb4.out hb5 HMb4.out.lt
      obtain ⟨es5, clock5, hes5, _⟩ := om_below HMo4.out hb5 HMo4.out.lt
      have k51 : w5.cell? ⟨N, 1, none⟩ = some (.map (some (N + 1))) := HKo5.out.cell 1
      have hclr := fun ty => run_clear_map (P := Tryz.prog) Tryz.underlying22 hes5 ty
      have hz5 : w4.heap.size ≤ w5.heap.size := hb5.size
      have hb6 : Below (N + 1) w5 (ChangeMaps.setBlock w5 (N + 1) (.map #[] clock5)) := below_setBlock hes5 _
      generalize hw6 : ChangeMaps.setBlock w5 (N + 1) (.map #[] clock5) = w6 at *
      have HBw6 : Hid (Below w.heap.size w w6) := HBw5.out.trans (hb6.mono (by omega))
      have hz6 : w6.heap.size = w5.heap.size := by rw [← hw6]; simp [ChangeMaps.setBlock]
      have hoth6 : ∀ k, k ≠ N + 1 → w6.heap[k]? = w5.heap[k]? := by rw [← hw6]; exact fun k hk => ChangeMaps.heap_setBlock_other hes5 _ hk
      have HZ6 := hide hz6
      have HO6 := hide hoth6
      have HA6 : Hid (AgentAt w6 L1 who gx (Ag.new c Dout ns)) := HA5.out.keep (p := fun l => l = none) ⟨by rw [← hw6]; rfl, by rw [← hw6]; rfl, by rw [← hw6]; rfl, by omega, fun _ _ => rfl, fun q _ hne => HO6.out q (fun e => hne (by rw [e]; exact HLN.out))⟩ (fun _ h => by cases h)
      clear hw6 hb5 hb6 hes5 k41 hz6 hoth6
      have hN16 : N + 1 < w5.heap.size := by have := HMo4.out.lt; omega
      have HKc6 : Hid (Blk w6 w.heap.size (c.cells (some b)) 25) := by show Blk _ _ _ _; unfold Blk; rw [HO6.out _ (by omega)]; exact HKc5.out
      have HMb6 : Hid (OM w6 b nb Dout) := by
        obtain ⟨es, clock, q1, q2⟩ := HMb5.out
        exact ⟨es, clock, by rw [HO6.out _ (by omega)]; exact q1, q2⟩
      have hlt6 : w.heap.size < w6.heap.size := HKc6.out.lt
      obtain ⟨e0, e1, e2, e3, e4, e5, e6, e7, e8, e9, e10⟩ : w6.cell? ⟨w.heap.size, 0, none⟩ = some (.int .i64 c.d) ∧ w6.cell? ⟨w.heap.size, 1, none⟩ = some (.map (some b)) ∧ w6.cell? ⟨w.heap.size, 2, none⟩ = some (.int .i64 c.q) ∧ w6.cell? ⟨w.heap.size, 3, none⟩ = some (.int .i64 c.at') ∧ w6.cell? ⟨w.heap.size, 4, none⟩ = some (.int .i64 c.ba) ∧ w6.cell? ⟨w.heap.size, 5, none⟩ = some (.int .i64 c.ca) ∧ w6.cell? ⟨w.heap.size, 6, none⟩ = some (.int .i64 c.ti) ∧ w6.cell? ⟨w.heap.size, 7, none⟩ = some (.int .i64 c.wi) ∧ w6.cell? ⟨w.heap.size, 8, none⟩ = some (.int .i64 c.le) ∧ w6.cell? ⟨w.heap.size, 9, none⟩ = some (.float .f64 c.th) ∧ w6.cell? ⟨w.heap.size, 10, none⟩ = some (.int .i64 c.op) := ⟨HKc6.out.cell 0, HKc6.out.cell 1, HKc6.out.cell 2, HKc6.out.cell 3, HKc6.out.cell 4, HKc6.out.cell 5, HKc6.out.cell 6, HKc6.out.cell 7, HKc6.out.cell 8, HKc6.out.cell 9, HKc6.out.cell 10⟩
      have hdd := Cfg.num_d HG.out.1
      go_upto_region 18 with fail
      go_cut [13] (fun s13 wx => ∃ gp, s13 = .pointer (some ⟨gp, 0, none⟩) ∧ PairNew w6 wx gp gx c (some b) Dout)
      case first =>
        go_region_held3 (fun w' => w'.cell? ⟨w.heap.size, 0, none⟩ = some (.int .i64 c.d) ∧ w'.cell? ⟨w.heap.size, 1, none⟩ = some (.map (some b)) ∧ w'.cell? ⟨w.heap.size, 2, none⟩ = some (.int .i64 c.q) ∧ w'.cell? ⟨w.heap.size, 3, none⟩ = some (.int .i64 c.at') ∧ w'.cell? ⟨w.heap.size, 4, none⟩ = some (.int .i64 c.ba) ∧ w'.cell? ⟨w.heap.size, 5, none⟩ = some (.int .i64 c.ca) ∧ w'.cell? ⟨w.heap.size, 6, none⟩ = some (.int .i64 c.ti) ∧ w'.cell? ⟨w.heap.size, 7, none⟩ = some (.int .i64 c.wi) ∧ w'.cell? ⟨w.heap.size, 8, none⟩ = some (.int .i64 c.le) ∧ w'.cell? ⟨w.heap.size, 9, none⟩ = some (.float .f64 c.th) ∧ w'.cell? ⟨w.heap.size, 10, none⟩ = some (.int .i64 c.op)) (go_keep)
          (first
            | (go_at_call 43; refine (refOpen_any c (some b) Dout _ (Or.inr ⟨b, nb, rfl, (by exact HMb6.out), hnb⟩) hdd.1 hdd.2).mono ?_; rintro e w7 ⟨gy, nv, ss, qv, la, lk, rfl, hgy, hky, hT, hPm, hb7⟩; have hc7 := fun o => hb7.cell (p := ⟨w.heap.size, o, none⟩) hlt6; have HR7 : Hid (∃ nv ss qv la lk, w6.heap.size ≤ gy ∧ Blk w7 gy (refCells c (some b) nv qv (.slice none 0 0) (.slice none 0 0) (.slice la c.d.toNat lk) 0) 109 ∧ Texts w7 w6.heap.size nv ss ∧ ss.Perm (strKeys Dout) ∧ Below w6.heap.size w6 w7) := ⟨nv, ss, qv, la, lk, hgy, hky, hT, hPm, (Below.refl w6.heap.size w6).drew.trans hb7⟩; have HA7 : Hid (AgentAt w7 L1 who gx (Ag.new c Dout ns)) := HA6.out.keep (Step.of_below (p := fun _ => False) ((Below.refl w6.heap.size w6).drew.trans hb7)) (fun _ h => h); clear hgy hky hT hPm hb7)
            | (go_at_call 33; refine (log_any L1 who gx _ _ HA7.out).mono ?_; rintro e w8 ⟨rfl, rfl⟩))
        go_wp2_with fail
        go_meet
        refine ⟨_, rfl, ?_⟩
        obtain ⟨nv, ss, qv, la, lk, q1, q2, q3, q4, q5⟩ := HR7.out
        have q6 := q2.lt
        exact ⟨gy, nv, ss, qv, la, lk, q5.size, q1, by omega, Blk.new _ _ _, q2.alloc _, q3.below ((Below.refl _ _).alloc (Nat.le_refl _) _) (Nat.le_refl _), q4, q5.alloc q5.size _⟩
      case rest =>
        obtain ⟨gp, rfl, gy, nv, ss, qv, la, lk, hgp, hgy, hne, hkp, hky, hT, hPm, hbd⟩ := hcut
        have HKP := hide hkp
        have HKY := hide hky
        have HT := hide hT
        have HPm := hide hPm
        have hgpl : gp < wc.heap.size := hkp.lt
        have b13 : wc.cell? ⟨gp, 13, none⟩ = some (.slice none 0 0) := hkp.cell 13
        have b14 : wc.cell? ⟨gp, 14, none⟩ = some (.string ⟨#[]⟩) := hkp.cell 14
        have g13 : wc.frozen? ⟨gp, 13, none⟩ = false := hkp.frozen 13
        have HBd : Hid (Below w.heap.size w wc) := HBw6.out.trans (hbd.mono (by omega))
        have HBd6 := hide hbd
        have hrow0 : wc.ownsRow (gp + 1) 105 3 (.slice none 0 0) 0 [] := ⟨rfl, Or.inl ⟨rfl, rfl⟩⟩
        obtain ⟨i1, hi1, hy0, hy1, hy2⟩ := info_parts infoStand
        clear hkp hky hT hPm e0 e1 e2 e3 e4 e5 e6 e7 e8 e9 e10
        go_upto_region 19 with fail
        have HU : Hid (∀ (w2 : World) (gg cap : Nat), ((wc.alloc (.cells #[.int .i64 0, .slice none 0 0, .slice none 0 0] 105)).drew).grownBy w2 none → PairRaw (w2.setCell ⟨gp, 13, none⟩ (.slice (some ⟨gg, 0, none⟩) 1 cap)) w6.heap.size gp gx c (some b) Dout ∧ Below w6.heap.size w6 (w2.setCell ⟨gp, 13, none⟩ (.slice (some ⟨gg, 0, none⟩) 1 cap))) := fun w2 gg cap hg => by
          have hb2 : Below wc.heap.size wc w2 := (((Below.refl _ _).alloc (Nat.le_refl _) _).drew).grown hg (by simp) (fun j hj => by cases hj)
          have hb3 : Below w6.heap.size w6 w2 := HBd6.out.trans (hb2.mono HBd6.out.size)
          refine ⟨⟨gy, nv, ss, qv, la, lk, _, _, by omega, by omega, (HKP.out.below hb2 HKP.out.lt).set 13 _, (HKY.out.below hb2 HKY.out.lt).other _ _ hne, ?_, HPm.out⟩, hb3.setCell (by show w6.heap.size ≤ gp; omega) _⟩
          exact texts_set ((HT.out.mono_base (Nat.le_refl _)).below hb2 (Nat.le_refl _)) (fun cur' => (HKP.out.below hb2 HKP.out.lt).notT (by decide)) _ _
        go_cut [] (fun wx => PairRaw wx w6.heap.size gp gx c (some b) Dout ∧ Below w6.heap.size w6 wx)
        case first =>
          go_region_law (refine step_append_lies _ (by rfl) _ _ _ (by rfl) (gp + 1) 105 i1 _ 3 56 Tryz.underlying100 hi1 hy0 hy1 hy2 rfl (by omega) (.slice none 0 0) 0 [] (by rfl) ((hrow0.alloc _).drew) ⟨wc.heap.size, 0, none⟩ 1 1 [.int .i64 0, .slice none 0 0, .slice none 0 0] (by rfl) (by rfl) (World.news_of_block (cs := #[.int .i64 0, .slice none 0 0, .slice none 0 0]) (t := 105) (fr := (0, 0)) (heap_alloc_new wc _)) (by simp [Value.oneCell']) (by omega) (by decide) (by decide) (by simp; omega) (wc.heap.size + 1) (by simp) ?_; intro gg cap w2 hown2 hgrow hat hlt3; have hBk := Blk.grown (w := World.drew (World.alloc wc _)) (HKP.out.alloc _) hgrow (by simp [Value.ownBlock]); have c13 := hBk.cell 13; have g13' := hBk.frozen 13; simp at c13; have HU2 := hide (HU.out w2 gg cap hgrow); clear hBk)
          all_goals (go_wp2_with fail; go_meet; exact HU2.out)
        case rest =>
          obtain ⟨hPA, hbx6⟩ := hcut
          have hbx : Below w.heap.size w wc := HBw6.out.trans (hbx6.mono (by omega))
          have HBx6 := hide hbx6
          have HA9 : Hid (AgentAt wc L1 who gx (Ag.new c Dout ns)) := HA6.out.keep (Step.of_below (p := fun _ => False) hbx6) (fun _ h => h)
          have h69 : w6.heap.size ≤ wc.heap.size := hbx6.size
          have hS0 : Step (fun _ => False) L w L1 wc := Step.of_below' hbx HL1.out
          have HPA := hide hPA
          have HBx := hide hbx
          have hkwA : BlkAt wc L1 (bl 2 0) gw cur 38 := HC.out.keep hS0 (fun h => h)
          have hkw := hkwA.1
          have HKA := hide hkwA.2
          have hrwA : RowAt wc L1 (bl 7 0) 97 1 (.slice pa k pk) k ps := HR.out.keep hS0 (fun h => h)
          have hrw := hrwA.1
          have HRA := hide hrwA.2
          have HKW := hide hkw
          have HRW := hide hrw
          have a22 : wc.cell? ⟨gw, 22, none⟩ = some (.slice pa k pk) := (hkw.cell 22).trans HP.out
          have f22 : wc.frozen? ⟨gw, 22, none⟩ = false := hkw.frozen 22
          have hgwc : gw < wc.heap.size := hkw.lt
          have hz9 : w.heap.size ≤ wc.heap.size := hbx.size
          obtain ⟨i2, hi2, ho0, ho1, ho2⟩ := info_parts infoPairP
          clear hPA hbx hbx6 hkw hkwA hrwA hS0 b13 b14 g13
          go_wp2_with (first
            | (at_builtin; refine wpList_append_lies _ rfl _ _ 31 rfl 0 97 i2 (.pointer none) 1 8 Tryz.underlying31 hi2 ho0 ho1 ho2 rfl (by decide) _ _ _ rfl (hrw.alloc _) ⟨wc.heap.size, 0, none⟩ 1 1 [.pointer (some ⟨gp, 0, none⟩)] rfl rfl (cell_one_new _ _ _) (by simp [Value.oneCell']) (by decide) (by unfold maxLen; omega) (by omega) (Nat.zero_le _) (wc.heap.size + 1) (by simp) ?_; intro gg cap w9 hown9 hg9 hat9 hlt9; have hK9 := Blk.grown (HKW.out.alloc _) hg9 (fun e => by have := HRA.out gw e.symm; rw [HKA.out] at this; simp [bl] at this); have HAt9 := hide hat9; have c22 := (hK9.cell 22).trans HP.out; have d22 := hK9.frozen 22; have HK9 := hide hK9; have HO9 := hide hown9; have HG9 := hide hg9; clear hK9 hown9 hg9)
            | fail)
          go_ret
          have hgw0 : gw < w.heap.size := hgw
          have hne0 : ∀ q, some q = Value.ownBlock (.slice pa k pk) → L1 q = bl 7 0 := fun q hq => HRA.out q hq.symm
          refine ⟨rfl, gp, gx, w6.heap.size, L1, ns, _, _, HK9.out.set 22 _, ?_, ?_, ?_, ?_, Hpm3.out, Hso3.out, by omega, ?_, HL1.out, fun q hq => HLn.out q (by have := HZ6.out; omega), ?_⟩
          · refine ⟨HO9.out.1, ?_⟩
            rcases HO9.out.2 with ⟨h, _⟩ | ⟨q, c', cu, q1, q2, q3, q4⟩
            · cases h
            · refine Or.inr ⟨q, c', cu, q1, q2, ?_, q4⟩
              rw [heap_setCell_other _ _ _ _ (fun e => by have e' : q = gw := e; subst e'; have := HK9.out; unfold Blk at this; rw [q3] at this; cases this)]
              exact q3
          · intro q hq
            obtain rfl : gg = q := by simpa [Value.ownBlock] using hq
            exact HAt9.out.imp id (fun e => by omega)
          · exact pairRaw_after' HPA.out HG9.out HRW.out (by omega) _ _
          · refine (HA9.out.keep (p := fun l => l = bl 7 0 ∨ l = bl 2 0) ((Step.alloc L1 wc _).trans ((Step.of_grown HG9.out (fun j hj => Or.inl (hne0 j hj.symm)) (fun _ _ => rfl)).trans (Step.setCell L1 w9 ⟨gw, 22, none⟩ _ (Or.inr HKA.out)))) (fun q h => ?_))
            simp [bl] at h
            omega
          · have := HG9.out.size; simp [World.setCell] at this ⊢; omega
          · refine ⟨?_, ?_, ?_, ?_, ?_⟩
            · exact HG9.out.os.trans HBx.out.os
            · exact HG9.out.tape.trans HBx.out.tape
            · exact HG9.out.output.trans HBx.out.output
            · have := HG9.out.size; simp [World.setCell] at this ⊢; omega
            · intro q hq h1 h2
              rw [heap_setCell_other _ _ _ _ h1, HG9.out.block q (by simp; omega) h2, Below.heap_alloc _ _ _ (by omega), HBx.out.block q hq]
    · intro x q kl yd yp w2 cnt2 hkey hlk hv hat hrg2 hlt hg2 hs2 hen
      obtain ⟨x', ex, rfl, hxl⟩ := Maps.keyOf_str Tryz.underlying9 hkey
      obtain rfl : x = x' := encStr_inj ex
      obtain ⟨q', eq', ey, hwq⟩ := plainElem_int_inv Tryz.underlying3 hv
      obtain rfl : q = q' := by simpa using eq'
      obtain ⟨rfl, rfl⟩ : yd = .lit (.int .i64 q) ∧ yp = [] := by simpa using ey
      have hout1 : OM w2 (N + 1) (Maps.size D - cnt) Dout := Hout.out.kept hg2 (by simp)
      have HK2 : Hid (Blk w2 N (c.cells (some (N + 1))) 25) := HK1.out.grown hg2 (by simp; omega)
      have hN2 : N ≤ wc.heap.size := by rw [HNe.out]; exact Nat.le_refl _
      have HB2 : Hid (Below N wc w2) := Hnx.out.grown hg2 (by omega) (fun j hj => by cases hj; omega)
      have HA2 := hide (agree_step (kl := .string x) HA.out Hout.out.isMap trivial hat)
      have HMe : Hid (cnt2 < wr.rangeLeft b (N + 1 + 1)) := by rw [hrg.left_eq]; exact hlt
      have Hrg2 := hide hrg2
      have hc2 : cnt2 < cnt := hlt
      have hNw2 : N < w2.heap.size := HK2.out.lt
      have e1' : w2.cell? ⟨N, 1, none⟩ = some (.map (some (N + 1))) := HK2.out.cell 1
      clear hlk hv hat ex eq' ey hs2 hlt hg2 hrg2 e1
      go_wp2_with (first
        | (at_mapUpdate; refine wpList_mapUpdate_own _ rfl _ _ _ 22 rfl 9 3 lawS Tryz.underlying22 _ (N + 1) _ _ rfl hout1 (by unfold maxLen; unfold big at hnb; omega) _ _ _ rfl rfl hkey _ [] (plainElem_int Tryz.underlying3 hwq) ?_; intro w3 hout3 hg3; go_frame)
        | fail)
      have hrg3 := Hrg2.out.kept hg3 (by simp; omega) (by simp)
      have hN3 : Blk w3 N (c.cells (some (N + 1))) 25 := HK2.out.grown hg3 (by simp)
      have hB3 : Below N wc w3 := HB2.out.grown hg3 (by omega) (fun j hj => by cases hj; omega)
      go_roundw
      case rel => exact ⟨_, cnt2, _, hrg3, by omega, hout3.mono (by omega), HA2.out, hN3, hB3⟩
      case measure => rw [hrg3.left_eq]; exact HMe.out
end Go.Proofs.YtojpjaifhjigfaaGreatDoor

/- (*World).opened, over the whole world. -/
namespace Go.Proofs.YtojpjaifhjigfaaGreatDoor
open Go.RowKit Go.Maps

/-- The labels of some blocks are said otherwise: those that had one keep it. -/
def Relab (L L' : Labs) : Prop := ∀ k l, L k = some l → L' k = some l
theorem BlkAt.relab {w : World} {L L' : Labs} {l : Nat × Part} {g : Nat} {cur : Array Value} {e : TypeId} (h : BlkAt w L (some l) g cur e) (r : Relab L L') : BlkAt w L' (some l) g cur e := ⟨h.1, r _ _ h.2⟩
theorem RowAt.relab {w : World} {L L' : Labs} {l : Nat × Part} {e : TypeId} {size : Nat} {v : Value} {n : Nat} {xs : List Value} (h : RowAt w L (some l) e size v n xs) (r : Relab L L') : RowAt w L' (some l) e size v n xs := ⟨h.1, fun g hg => r _ _ (h.2 g hg)⟩
theorem OMapAt.relab {H : Type} {w : World} {L L' : Labs} {l : Nat × Part} {P : Program} {k : TypeId} {R : Value → Option (DataW H × List MemPlace)} {b n : Nat} {D : DataW H} (h : OMapAt w L (some l) P k R b n D) (r : Relab L L') : OMapAt w L' (some l) P k R b n D := ⟨h.1, r _ _ h.2⟩
theorem AgentAt.relab {w : World} {L L' : Labs} {who g : Nat} {M : Ag} (h : AgentAt w L who g M) (r : Relab L L') : AgentAt w L' who g M := by
  obtain ⟨bq, bm, cn, tv, dv, nv, rv, ov, h⟩ := h
  obtain ⟨D, q1, q2, q3, q4, q5⟩ := h.qs
  obtain ⟨fs, o1, o2, o3⟩ := h.ol
  refine ⟨bq, bm, cn, tv, dv, nv, rv, ov, h.blk.relab r, h.tk.relab r, ⟨D, q1.relab r, q2, q3, q4, fun d t hl => (q5 d t hl).relab r⟩, h.dd.relab r, h.nm.relab r, h.rt.relab r, ⟨fs, o1, o2.relab r, fun i o f hi hf => ?_⟩, h.cm.relab r⟩
  obtain ⟨g1, a1, a2, a3⟩ := o3 i o f hi hf
  exact ⟨g1, a1, a2.relab r, a3.relab r⟩

/-- The labels of what a new pair has brought. -/
def pairLabs (L1 : Labs) (B : Nat) (w : World) (i : Nat) : Labs := fun k =>
  if k < B then L1 k else match w.heap[k]? with
  | some (.cells _ t _) => if t = 102 then bl 8 i else if t = 109 then some (2 * i + 2, .ag) else if t = 9 then some (2 * i + 2, .nm) else if t = 97 then bl 7 0 else none
  | _ => none
theorem pairLabs_cells {L1 : Labs} {B : Nat} {w : World} {i k : Nat} {cs : Array Value} {t : TypeId} (hk : B ≤ k) (h : Blk w k cs t) : pairLabs L1 B w i k =
    if t = 102 then bl 8 i else if t = 109 then some (2 * i + 2, .ag) else if t = 9 then some (2 * i + 2, .nm) else if t = 97 then bl 7 0 else none := by
  unfold Blk at h
  simp [pairLabs, h, Nat.not_lt.2 hk]
theorem pairLabs_old {L1 : Labs} {B : Nat} {w : World} {i k : Nat} (hk : k < B) : pairLabs L1 B w i k = L1 k := by simp [pairLabs, hk]

theorem strKeys_nodup {w : World} {b n : Nat} {D : DataW Unit} (h : OM w b n D) : (strKeys D).Nodup := by
  obtain ⟨es, rfl, hkk⟩ := h.keysOf
  obtain ⟨es', e', hpw, _⟩ := h.entries lawS
  cases e'
  show (es.map fun p => strOf p.1).Nodup
  rw [List.nodup_iff_pairwise_ne, List.pairwise_map]
  refine (List.Pairwise.imp_of_mem (fun {p q} hp hq hne he => hne ?_) hpw)
  obtain ⟨v, hv⟩ := hkk p hp
  obtain ⟨y, _, hy, _⟩ := Maps.keyOf_str Tryz.underlying9 hv
  obtain ⟨v', hv'⟩ := hkk q hq
  obtain ⟨y', _, hy', _⟩ := Maps.keyOf_str Tryz.underlying9 hv'
  rw [hy, hy'] at he ⊢
  simpa [strOf] using he

theorem sim_new {w : World} {b n : Nat} {c : Cfg} {D : DataW Unit} {ns ss : List (List UInt8)} (h : OM w b n D) (hg : GoodC c D) (hp : ss.Perm (strKeys D)) : Sim (Ag.new c D ns) ⟨c, some b, ss, [], [], 0⟩ where
  c := rfl
  bs := rfl
  dd := rfl
  dr := rfl
  good := hg
  pm := hp
  nd := hp.nodup_iff.2 (strKeys_nodup h)
  nl := by rw [hp.length_eq, size_strKeys h]; exact hg.2.1.1.2
  sl := fun x hx => by
    have hh := (mem_strKeys h x).1 (hp.mem_iff.1 hx)
    obtain ⟨q, hat, _⟩ := look_at h hh
    have := hg.2.1.2 x q hat
    simp [okKV, inB] at this
    omega
  hs := fun x => by rw [hp.mem_iff, mem_strKeys h]; rfl
  b120 := by simp [Ag.new]
  each := fun b hb => by simp [Ag.new] at hb
  rt := rfl
  lg := Nat.zero_le _

/-- Configuration n of the world. -/
structure CfgAt (w : World) (L : Labs) (cur : Array Value) (n : Nat) (c : Cfg) (m : Option Nat) (D : DataW Unit) : Prop where
  cell : ∀ j v, (c.cells m)[j]? = some v → cur[n * 11 + j]? = some v
  map : MapAt w m D
  lab : ∀ b, m = some b → L b = none
theorem CfgAt.keep {w w' : World} {L L' : Labs} {cur cur' : Array Value} {n : Nat} {c : Cfg} {m : Option Nat} {D : DataW Unit} (h : CfgAt w L cur n c m D) {p : Lab → Prop} (s : Step p L w L' w') (hp : ¬ p none) (hc : ∀ i, i < 22 → cur'[i]? = cur[i]?) (hn : n < 2) : CfgAt w' L' cur' n c m D := by
  refine ⟨fun j v hv => ?_, ?_, fun b hb => ?_⟩
  · have hj : j < 11 := (Array.getElem?_eq_some_iff.1 hv).1
    rw [hc _ (by omega)]
    exact h.cell j v hv
  · rcases h.map with q | ⟨b, n', h1, h2, h3⟩
    · exact Or.inl q
    · exact Or.inr ⟨b, n', h1, ownsMap_of_block h2 (s.block b h2.lt (by rw [h.lab b h1]; exact hp)), h3⟩
  · rcases h.map with ⟨q, _⟩ | ⟨b', n', h1, h2, h3⟩
    · rw [hb] at q; cases q
    · rw [hb] at h1
      cases h1
      rw [s.lab _ h2.lt]
      exact h.lab _ hb

/-- What opened may turn. -/
def opP : Lab → Prop := fun l => l = bl 7 0 ∨ l = bl 2 0

theorem opened_any (L : Labs) (gw : Nat) (A : Nat → Addr) (z : Int) (n : Nat) (hn : n < 2) (hpk : PickIs z n) (cur : Array Value) (pv tv mv : Value) (np nt nm : Nat) (ps : List Value) (c : Cfg) (m : Option Nat) (D : DataW Unit) (w : World) (h : WAt w L gw A cur pv tv mv np nt nm ps) (hc : CfgAt w L cur n c m D) (hnp : np ≤ 8000000) :
    Calls Tryz.prog 16 #[.pointer (some ⟨gw, 0, none⟩), .int .i64 z] w fun e w' => e = .returned (.bool true) ∧ ∃ L' cur' pv' np' ps', WAt w' L' gw A cur' pv' tv mv np' nt nm ps' ∧ np ≤ np' ∧ np' ≤ np + 1 ∧ (GoodC c D → np' = np + 1) ∧ (∀ i, i ≠ 22 → cur'[i]? = cur[i]?) ∧ Step opP L w L' w' := by
  have hcells : w.cell? ⟨gw, n * 11, none⟩ = some (.int .i64 c.d) ∧ w.cell? ⟨gw, n * 11 + 1, none⟩ = some (.map (m)) ∧ w.cell? ⟨gw, n * 11 + 2, none⟩ = some (.int .i64 c.q) ∧ w.cell? ⟨gw, n * 11 + 3, none⟩ = some (.int .i64 c.at') ∧ w.cell? ⟨gw, n * 11 + 4, none⟩ = some (.int .i64 c.ba) ∧ w.cell? ⟨gw, n * 11 + 5, none⟩ = some (.int .i64 c.ca) ∧ w.cell? ⟨gw, n * 11 + 6, none⟩ = some (.int .i64 c.ti) ∧ w.cell? ⟨gw, n * 11 + 7, none⟩ = some (.int .i64 c.wi) ∧ w.cell? ⟨gw, n * 11 + 8, none⟩ = some (.int .i64 c.le) ∧ w.cell? ⟨gw, n * 11 + 9, none⟩ = some (.float .f64 c.th) ∧ w.cell? ⟨gw, n * 11 + 10, none⟩ = some (.int .i64 c.op) := ⟨(h.blk.1.cell _).trans (hc.cell 0 _ rfl), (h.blk.1.cell _).trans (hc.cell 1 _ rfl), (h.blk.1.cell _).trans (hc.cell 2 _ rfl), (h.blk.1.cell _).trans (hc.cell 3 _ rfl), (h.blk.1.cell _).trans (hc.cell 4 _ rfl), (h.blk.1.cell _).trans (hc.cell 5 _ rfl), (h.blk.1.cell _).trans (hc.cell 6 _ rfl), (h.blk.1.cell _).trans (hc.cell 7 _ rfl), (h.blk.1.cell _).trans (hc.cell 8 _ rfl), (h.blk.1.cell _).trans (hc.cell 9 _ rfl), (h.blk.1.cell _).trans (hc.cell 10 _ rfl)⟩
  by_cases hg : GoodC c D
  · obtain ⟨b, nb, rfl, hO, hnb⟩ : ∃ b nb, m = some b ∧ OM w b nb D ∧ nb ≤ big := by
      rcases hc.map with ⟨_, e⟩ | q
      · exact absurd hg.2.1.1.1 (by rw [e]; simp [Maps.size])
      · exact q
    obtain ⟨pa, pk, rfl, _⟩ := h.prs.shape
    refine (opened_good L (2 * np + 1) (by omega) z n gw hn hpk c b nb D cur pa np pk ps w hO hnb hg h.blk h.c22 h.prs hnp hcells).mono ?_
    rintro e w' ⟨rfl, gp, gx, B, L1, ns, pa', pk', hK, hrow, hat, hraw, hAg, hpm, hso, hB0, hB1, hL1, hLn, hkept⟩
    obtain ⟨gy, nv, ss, qv, la, lk, sv, lg, hgp, hgy, hkp, hky, hT, hss⟩ := hraw
    have hrel : Relab L1 (pairLabs L1 B w' np) := fun k l hk => by
      by_cases hkB : k < B
      · rw [pairLabs_old hkB]; exact hk
      · rw [hLn k (by omega)] at hk; cases hk
    have hgwl := h.blk.1.lt
    have hpl : ps.length = np := by have := h.prs.1.1; omega
    have hS : Step opP L w (pairLabs L1 B w' np) w' := by
      refine ⟨hkept.os, hkept.tape, hkept.output, hkept.size, fun k hk => by rw [pairLabs_old (by omega)]; exact hL1 k hk, fun k hk hne => hkept.block k hk (fun e => hne ?_) (fun e => hne ?_)⟩
      · rw [e, h.blk.2]; exact Or.inr rfl
      · rw [h.prs.2 k e.symm]; exact Or.inl rfl
    refine ⟨rfl, pairLabs L1 B w' np, cur.setIfInBounds 22 (.slice pa' (np + 1) pk'), .slice pa' (np + 1) pk', np + 1, ps ++ [.pointer (some ⟨gp, 0, none⟩)], ?_, by omega, Nat.le_refl _, fun _ => rfl, fun i hi => by rw [Array.getElem?_setIfInBounds_ne (fun e => hi e.symm)], hS⟩
    have hl22 := (Array.getElem?_eq_some_iff.1 h.c22).1
    refine ⟨⟨hK, by rw [pairLabs_old (by omega), hL1 gw hgwl]; exact h.blk.2⟩, by simp [hl22], by rw [Array.getElem?_setIfInBounds_ne (by omega)]; exact h.c23, by rw [Array.getElem?_setIfInBounds_ne (by omega)]; exact h.c24, by rw [Array.getElem?_setIfInBounds_ne (by omega)]; exact h.c25, ⟨hrow, fun q hq => ?_⟩, fun i v hv => ?_,
      h.txt.keep hS (by simp [opP, bl]) (fun i _ => by simp [opP, bl]), h.mps.keep hS (by simp [opP, bl]) (fun i _ => by simp [opP, bl]), h.err.keep hS (by simp [opP])⟩
    · rcases hat q hq with hq' | hq'
      · have hql : q < w.heap.size := (h.prs.1.lt q hq').2
        rw [pairLabs_old (by omega), hL1 q hql]
        exact h.prs.2 q hq'
      · rcases hrow.2 with ⟨e, _⟩ | ⟨q', cap, cu, q1, q2, q3, q4⟩
        · cases e
        · rw [q1] at hq
          obtain rfl : q' = q := by simpa [Value.ownBlock] using hq
          rw [pairLabs_cells hq' q3]
          rfl
    · by_cases hil : i < ps.length
      · rw [List.getElem?_append_left hil] at hv
        obtain ⟨gp', M', R', e', hP'⟩ := h.pr i v hv
        exact ⟨gp', M', R', e', hP'.keep hS (by simp [opP, bl]) (fun q => by simp [opP, bl]) (fun q => by simp [opP, bl])⟩
      · rw [List.getElem?_append_right (by omega)] at hv
        have e0 : i - ps.length = 0 := by
          have := (List.getElem?_eq_some_iff.1 hv).1
          simp at this; omega
        rw [e0] at hv
        obtain rfl : i = np := by omega
        simp at hv
        refine ⟨gp, Ag.new c D ns, ⟨c, some b, ss, [], [], 0⟩, hv.symm, gx, gy, c, some b, sv, lg, ⟨hkp, by rw [pairLabs_cells hgp hkp]; rfl⟩, hAg.relab hrel, ?_, sim_new hO hg hss⟩
        refine ⟨nv, qv, .slice none 0 0, .slice none 0 0, la, lk, ⟨hky, by rw [pairLabs_cells hgy hky]; rfl⟩, ⟨⟨hT.1, ?_⟩, fun q hq => ?_⟩, RowAt.nil _ _ _ _ _, RowAt.nil _ _ _ _ _⟩
        · rcases hT.2 with e | ⟨q', cap, cu, q1, q2, q3⟩
          · exact Or.inl e
          · exact Or.inr ⟨q', cap, cu, q1, Nat.zero_le _, q3⟩
        · rcases hT.2 with ⟨e, _⟩ | ⟨q', cap, cu, q1, q2, q3, q4⟩
          · have e' : nv = .slice none 0 0 := e
            simp only [e', Value.ownBlock] at hq
            cases hq
          · have e' : nv = _ := q1
            rw [e'] at hq
            obtain rfl : q' = q := by simpa [Value.ownBlock] using hq
            rw [pairLabs_cells q2 q3]
            rfl
  · refine (opened_bad z n gw hn hpk A c m D w h.err.hs hc.map hg hcells).mono ?_
    rintro e w' ⟨rfl, hb⟩
    exact ⟨rfl, L, cur, pv, np, ps, h.below hb, Nat.le_refl _, by omega, fun h => absurd h hg, fun _ _ => rfl, Step.of_below hb⟩
end Go.Proofs.YtojpjaifhjigfaaGreatDoor
