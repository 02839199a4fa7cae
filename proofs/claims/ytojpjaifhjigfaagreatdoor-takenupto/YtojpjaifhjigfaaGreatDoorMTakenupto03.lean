/- Steps of the proof (several texts in one): Outlets, NewAgent, OpenNew, RefNames. -/
import Derived.Test.YtojpjaifhjigfaaGreatDoorMTakenupto02
import Derived.Test.YtojpjaifhjigfaaGreatDoorMTakenupto01
import Derived.Sort.OwnSorted
import Derived.Deep.AppendLies

/- newOutlets: the destinations of a new agent. -/
namespace Go.Proofs.YtojpjaifhjigfaaGreatDoor
open Go.RowKit Go.Maps

theorem infoOutlet : (Tryz.prog.info? 149).map (fun i => (i.zero, i.size, i.bytes)) = some (some (.agg #[.nilFunc, .int .i64 0, .int .i64 0, .bool false, .int .i64 0, .int .i64 0, .slice none 0 0, .int .i64 0, .int .i64 0, .int .i64 0]), 10, 96) := by kernel_rfl
theorem infoOutletS : (Tryz.prog.info? 149).map (·.size) = some 10 := by kernel_rfl
theorem infoI64 : (Tryz.prog.info? 3).map (fun i => (i.zero, i.size, i.bytes)) = some (some (.int .i64 0), 1, 8) := by kernel_rfl

/-- A destination as it is at first. -/
def Out.zero (n : Nat) : Out := { res := 0, fl := 0, trip := false, unt := 0, turn := 0, cr := List.replicate n 0, sends := 0, way := -1, began := 0 }

/-- k destinations are made, from block B on; fs: what each one's breaker asks, and its credits. -/
def Made (wr : World) (B th n : Nat) (fs : List (Value × Value)) : Prop :=
  ∀ (i : Nat) (f : Value × Value), fs[i]? = some f → ∃ g1 g2 : Nat, f = (Value.func (.func 152) #[] #[.pointer (some ⟨g1, 0, none⟩)], Value.slice (some ⟨g2, 0, none⟩) n n) ∧ B ≤ g1 ∧ B ≤ g2 ∧ Blk wr g1 #[.float .f64 th] 23 ∧ wr.ownsRow 0 3 1 (.slice (some ⟨g2, 0, none⟩) n n) n (List.replicate n (.int .i64 0))
/-- No two have one row of credits. -/
def Apart (fs : List (Value × Value)) : Prop := ∀ (i j : Nat) (f f' : Value × Value), i < j → fs[i]? = some f → fs[j]? = some f' → f.2.ownBlock ≠ f'.2.ownBlock

theorem Made.keep {wr wr' : World} {B th n : Nat} {fs : List (Value × Value)} (h : Made wr B th n fs) (hk : ∀ g cur t, Blk wr g cur t → B ≤ g → Blk wr' g cur t) : Made wr' B th n fs := fun i f hf => by
  obtain ⟨g1, g2, h1, h2, h3, h4, h5⟩ := h i f hf
  refine ⟨g1, g2, h1, h2, h3, hk _ _ _ h4 h2, h5.1, ?_⟩
  rcases h5.2 with ⟨q, _⟩ | ⟨g, cap, cur, q1, q2, q3, q4⟩
  · cases q
  · have e : g2 = g := by simp at q1; exact q1.1
    subst e
    exact Or.inr ⟨g2, cap, cur, q1, q2, hk _ _ _ q3 h3, q4⟩

set_option maxRecDepth 100000 in
set_option maxHeartbeats 2000000 in
theorem newOutlets_any (c : Cfg) (b nb : Nat) (D : DataW Unit) (w : World) (h0 : 1 ≤ c.d) (h1 : c.d ≤ 4) (hown : OM w b nb D) (hsz : Maps.size D ≤ 8) : Calls Tryz.prog 102 #[c.val (some b)] w fun e w' =>
    ∃ g fs, e = .returned (.slice (some ⟨g, 0, none⟩) c.d.toNat c.d.toNat) ∧ w.heap.size ≤ g ∧ fs.length = c.d.toNat ∧ w'.ownsRow w.heap.size 149 10 (.slice (some ⟨g, 0, none⟩) c.d.toNat c.d.toNat) c.d.toNat (fs.flatMap fun f => (Out.zero (Maps.size D)).cells f.1 f.2) ∧
      Made w' (g + 1) c.th (Maps.size D) fs ∧ Apart fs ∧ Below w.heap.size w w' := by
  obtain ⟨i0, hi, hz0, hz1, hz2⟩ := info_parts infoOutlet
  obtain ⟨d, hd⟩ : ∃ d : Nat, c.d = d := ⟨c.d.toNat, by omega⟩
  have hdt : c.d.toNat = d := by omega
  have hd4 : d ≤ 4 := by omega
  rw [hdt]
  have HO := hide hown
  clear hown hdt
  go_enter Tryz.func102, Tryz.ntmps102
  go_wp2_with (first
    | (at_make; refine wpList_make_full _ rfl _ _ 136 rfl w.heap.size 149 i0 _ 10 Tryz.underlying136 hi hz0 hz1 _ _ _ _ d rfl rfl rfl rfl (by rw [hz2]; omega) (by unfold maxLen; omega) (by simp) ?_; intro w1 hrow hg1; have HR0 := hide hrow; have HG1 := hide hg1; clear hrow hg1)
    | fail)
  have hB1 : Below (w.heap.size + 1) (w.alloc (.cells (c.cells (some b)) 25)) w1 := (Below.refl _ _).grown HG1.out (by simp) (fun j hj => by cases hj)
  have hKc : Blk w1 w.heap.size (c.cells (some b)) 25 := (Blk.new w _ _).below hB1 (by omega)
  have hBw : Below w.heap.size w w1 := ((Below.refl _ _).alloc (Nat.le_refl _) _).trans (hB1.mono (by omega))
  obtain ⟨cur, hblk, hcs⟩ : ∃ cur, Blk w1 (w.heap.size + 1) cur 149 ∧ cur.size = d * 10 := by
    rcases HR0.out.2 with ⟨h, _⟩ | ⟨g, cap, cur, h, _, hb, _, _, hs, _⟩
    · cases h
    · simp at h
      obtain ⟨rfl, rfl⟩ := h
      exact ⟨cur, hb, by simpa using hs⟩
  have HC := hide hKc
  have HB := hide hBw
  have HK := hide hblk
  have Hcs := hide hcs
  have Hd := hide hd
  clear hB1 hKc hBw hblk hcs HR0 HG1 hd
  generalize hN : w.heap.size = N at *
  have HN := hide hN
  clear hN
  obtain ⟨i1, hi1, hy0, hy1, hy2⟩ := info_parts infoI64
  go_loopw [10] (fun i wr => ∃ (k : Nat) (cur : Array Value) (fs : List (Value × Value)), k ≤ d ∧ i = .int .i64 k ∧ fs.length = k ∧ Blk wr (N + 1) cur 149 ∧ cur.size = d * 10 ∧ cur.toList.take (k * 10) = (fs.flatMap fun f => (Out.zero (Maps.size D)).cells f.1 f.2) ∧
      Made wr (N + 1 + 1) c.th (Maps.size D) fs ∧ Apart fs ∧ Blk wr N (c.cells (some b)) 25 ∧ Below N w wr) (fun i _ => d - (intOf i).toNat)
  case atStart => exact ⟨0, cur, [], Nat.zero_le _, rfl, rfl, HK.out, Hcs.out, by simp, fun i f hf => by simp at hf, fun i j f f' _ hf => by simp at hf, HC.out, HB.out⟩
  case round =>
    obtain ⟨k, cur', fs, hk, rfl, hfl, hblk, hcs', hft, hmade, hap, hcb, hnx⟩ := hrel
    have Hblk := hide hblk
    have Hcs' := hide hcs'
    have Hft := hide hft
    have Hm := hide hmade
    have Hap := hide hap
    have Hcb := hide hcb
    have Hnx := hide hnx
    have hNl : N + 1 < wr.heap.size := hblk.lt
    obtain ⟨e0, e1, e2, e3, e4, e5, e6, e7, e8, e9, e10⟩ : wr.cell? ⟨N, 0, none⟩ = some (.int .i64 c.d) ∧ wr.cell? ⟨N, 1, none⟩ = some (.map (some b)) ∧ wr.cell? ⟨N, 2, none⟩ = some (.int .i64 c.q) ∧ wr.cell? ⟨N, 3, none⟩ = some (.int .i64 c.at') ∧ wr.cell? ⟨N, 4, none⟩ = some (.int .i64 c.ba) ∧ wr.cell? ⟨N, 5, none⟩ = some (.int .i64 c.ca) ∧ wr.cell? ⟨N, 6, none⟩ = some (.int .i64 c.ti) ∧ wr.cell? ⟨N, 7, none⟩ = some (.int .i64 c.wi) ∧ wr.cell? ⟨N, 8, none⟩ = some (.int .i64 c.le) ∧ wr.cell? ⟨N, 9, none⟩ = some (.float .f64 c.th) ∧ wr.cell? ⟨N, 10, none⟩ = some (.int .i64 c.op) := ⟨hcb.cell 0, hcb.cell 1, hcb.cell 2, hcb.cell 3, hcb.cell 4, hcb.cell 5, hcb.cell 6, hcb.cell 7, hcb.cell 8, hcb.cell 9, hcb.cell 10⟩
    have hmk : ∀ W : World, (Instr.makeSlice 51 (.int .i64 (Maps.size D : Int)) (.int .i64 (Maps.size D : Int))).run Tryz.prog W = .ok (.slice (some ⟨W.heap.size, 0, none⟩) (Maps.size D) (Maps.size D)) (W.alloc (.cells (madeCells (Value.int .i64 0).cells (Maps.size D)) 3)) := fun W => by
      have := run_make (P := Tryz.prog) W 51 3 i1 (.int .i64 0) Tryz.underlying51 hi1 hy0 .i64 .i64 (Maps.size D) (Maps.size D) (by omega) (by omega) (by rw [hy2]; omega) (by omega)
      rw [hy1] at this
      simpa using this
    clear hblk hcs' hft hmade hap hcb hnx
    by_cases hlt : k < d
    · have hltI : (k : Int) < (d : Int) := by omega
      obtain ⟨es, clock, hes, hes2⟩ := om_below HO.out Hnx.out (by rw [← HN.out]; exact HO.out.lt)
      have hlen : ∀ (W : World), W.heap[b]? = some (.map es clock) → ∀ ty, (Builtin.len_ #[22] ty #[.map (some b)]).run Tryz.prog W = .ok (.int .i64 (Maps.size D)) W := fun W hW ty => World.ownsMap.len (n := nb) (R := plainElem Tryz.prog 3) ⟨es, clock, hW, hes2⟩ Tryz.underlying22 ty
      have hl0 := hlen wr.drew hes
      have hl1 := fun o => hlen (wr.alloc o).drew ((Below.heap_alloc _ _ _ (Array.getElem?_eq_some_iff.1 hes).1).trans hes)
      have Hes := hide hes
      have Hlen := hide hlen
      clear hes2 hes hlen
      have hNl0 : N < wr.heap.size := by omega
      go_wp2_with fail
      go_region_with
        (first
          | (go_at_call 128; refine (newBreaker_any c (some b) _).mono ?_; rintro e w2 ⟨g1, rfl, hb2, hg1, hq1⟩; have hc2 := fun o => hb2.cell (p := ⟨N, o, none⟩) hNl0; have hl2 := Hlen.out w2 ((hb2.block b (Array.getElem?_eq_some_iff.1 Hes.out).1).trans Hes.out); have hk2 : Blk w2 (N + 1) cur' 149 := Blk.below (w := wr.drew) Hblk.out hb2 hNl; have hfz := fun o => hk2.frozen o; have z0 : w2.cell? ⟨N + 1, k * 10, none⟩ = some (cur'[k * 10]'(by have := Hcs'.out; omega)) := (hk2.cell _).trans (Array.getElem?_eq_getElem _); have z1 : w2.cell? ⟨N + 1, k * 10 + 1, none⟩ = some (cur'[k * 10 + 1]'(by have := Hcs'.out; omega)) := (hk2.cell _).trans (Array.getElem?_eq_getElem _); have z2 : w2.cell? ⟨N + 1, k * 10 + 2, none⟩ = some (cur'[k * 10 + 2]'(by have := Hcs'.out; omega)) := (hk2.cell _).trans (Array.getElem?_eq_getElem _); have z3 : w2.cell? ⟨N + 1, k * 10 + 3, none⟩ = some (cur'[k * 10 + 3]'(by have := Hcs'.out; omega)) := (hk2.cell _).trans (Array.getElem?_eq_getElem _); have z4 : w2.cell? ⟨N + 1, k * 10 + 4, none⟩ = some (cur'[k * 10 + 4]'(by have := Hcs'.out; omega)) := (hk2.cell _).trans (Array.getElem?_eq_getElem _); have z5 : w2.cell? ⟨N + 1, k * 10 + 5, none⟩ = some (cur'[k * 10 + 5]'(by have := Hcs'.out; omega)) := (hk2.cell _).trans (Array.getElem?_eq_getElem _); have z6 : w2.cell? ⟨N + 1, k * 10 + 6, none⟩ = some (cur'[k * 10 + 6]'(by have := Hcs'.out; omega)) := (hk2.cell _).trans (Array.getElem?_eq_getElem _); have z7 : w2.cell? ⟨N + 1, k * 10 + 7, none⟩ = some (cur'[k * 10 + 7]'(by have := Hcs'.out; omega)) := (hk2.cell _).trans (Array.getElem?_eq_getElem _); have z8 : w2.cell? ⟨N + 1, k * 10 + 8, none⟩ = some (cur'[k * 10 + 8]'(by have := Hcs'.out; omega)) := (hk2.cell _).trans (Array.getElem?_eq_getElem _); have z9 : w2.cell? ⟨N + 1, k * 10 + 9, none⟩ = some (cur'[k * 10 + 9]'(by have := Hcs'.out; omega)) := (hk2.cell _).trans (Array.getElem?_eq_getElem _); have Hb2 := hide hb2; have Hg1 := hide hg1; have Hq1 := hide hq1; have Hk2 := hide hk2; have hNl2 := hk2.lt; clear hb2 hg1 hq1 hk2))
      all_goals
        go_wp2_with fail
        go_roundw
        case rel =>
          generalize hX : (World.setCell (World.setCell (World.setCell (World.setCell (World.setCell (World.setCell (World.setCell (World.setCell (World.setCell (World.setCell w2 _ _) _ _) _ _) _ _) _ _) _ _) _ _) _ _) _ _) _ _) = X
          have hX' : w2.setCells (N + 1) (k * 10) ((Out.zero (Maps.size D)).cells (.func (.func 152) #[] #[.pointer (some ⟨g1, 0, none⟩)]) (.slice (some ⟨w2.heap.size, 0, none⟩) (Maps.size D) (Maps.size D))) = X := hX
          clear hX
          subst hX'
          have hkX := Blk.setCells ((Out.zero (Maps.size D)).cells (.func (.func 152) #[] #[.pointer (some ⟨g1, 0, none⟩)]) (.slice (some ⟨w2.heap.size, 0, none⟩) (Maps.size D) (Maps.size D))) (k * 10) Hk2.out
          have hzX : (w2.setCells (N + 1) (k * 10) ((Out.zero (Maps.size D)).cells (.func (.func 152) #[] #[.pointer (some ⟨g1, 0, none⟩)]) (.slice (some ⟨w2.heap.size, 0, none⟩) (Maps.size D) (Maps.size D)))).heap.size = w2.heap.size := size_setCells _ _
          have hoth : ∀ g cur t, Blk wr g cur t → g ≠ N + 1 → Blk (w2.setCells (N + 1) (k * 10) ((Out.zero (Maps.size D)).cells (.func (.func 152) #[] #[.pointer (some ⟨g1, 0, none⟩)]) (.slice (some ⟨w2.heap.size, 0, none⟩) (Maps.size D) (Maps.size D)))) g cur t := fun g cur t hb hne => Blk.setCellsOther hne _ _ (Blk.below (w := wr.drew) hb Hb2.out hb.lt)
          have hw2 : wr.heap.size ≤ w2.heap.size := Hb2.out.size
          refine ⟨k + 1, _, fs ++ [(Value.func (.func 152) #[] #[.pointer (some ⟨g1, 0, none⟩)], Value.slice (some ⟨w2.heap.size, 0, none⟩) (Maps.size D) (Maps.size D))], by omega, by go_num, by simp [hfl], hkX.alloc _, by rw [splice_size]; exact Hcs'.out, ?_, ?_, ?_, (hoth _ _ _ Hcb.out (by omega)).alloc _, ?_⟩
          · have := splice_take (l := (Out.zero (Maps.size D)).cells (.func (.func 152) #[] #[.pointer (some ⟨g1, 0, none⟩)]) (.slice (some ⟨w2.heap.size, 0, none⟩) (Maps.size D) (Maps.size D))) (cs := cur') (o := k * 10) (by rw [Hcs'.out]; simp [Out.cells]; omega)
            rw [Hft.out] at this
            rw [Nat.succ_mul]
            rw [List.flatMap_append]
            simpa [Out.cells] using this
          · intro i f hf
            by_cases hif : i < fs.length
            · rw [List.getElem?_append_left hif] at hf
              exact (Hm.out.keep (fun g cur t hb hg => (hoth g cur t hb (by omega)).alloc _)) i f hf
            · rw [List.getElem?_append_right (by omega)] at hf
              have e : i - fs.length = 0 := by
                have := (List.getElem?_eq_some_iff.1 hf).1
                simp at this; omega
              rw [e] at hf
              simp at hf
              have hg1' : wr.heap.size ≤ g1 := Hg1.out
              refine ⟨g1, w2.heap.size, hf.symm, by omega, by omega, (Blk.setCellsOther (by omega) _ _ Hq1.out).alloc _, ?_⟩
              have := Blk.made (V := w2.setCells (N + 1) (k * 10) ((Out.zero (Maps.size D)).cells (.func (.func 152) #[] #[.pointer (some ⟨g1, 0, none⟩)]) (.slice (some ⟨w2.heap.size, 0, none⟩) (Maps.size D) (Maps.size D)))) hzX (madeCells #[.int .i64 0] (Maps.size D)) 3
              exact ⟨by simp, Or.inr ⟨_, _, _, rfl, Nat.zero_le _, this, Nat.le_refl _, by unfold maxLen; omega, by simp [size_madeCells], by simp [toList_madeCells_one]⟩⟩
          · intro i j f f' hij hf hf'
            have hj : j < fs.length + 1 := by
              have := (List.getElem?_eq_some_iff.1 hf').1
              simpa using this
            rw [List.getElem?_append_left (by omega)] at hf
            by_cases hjf : j < fs.length
            · rw [List.getElem?_append_left hjf] at hf'
              exact Hap.out i j f f' hij hf hf'
            · rw [List.getElem?_append_right (by omega), show j - fs.length = 0 by omega] at hf'
              simp at hf'
              obtain ⟨a1, a2, rfl, _, _, _, a6⟩ := Hm.out i f hf
              have hlt2 : a2 < wr.heap.size := (a6.lt a2 (by simp [Value.ownBlock])).2
              subst hf'
              simp [Value.ownBlock]
              omega
          · have hb3 : Below N w w2 := Hnx.out.drew.trans (Hb2.out.mono (by show N ≤ wr.heap.size; omega))
            exact (below_setCells (by omega) _ _ hb3).alloc (by rw [hzX]; omega) _
        case measure => simp [intOf]; omega
    · have e : k = d := by omega
      subst e
      go_wp2_with fail
      go_ret
      refine ⟨N + 1, fs, rfl, by rw [HN.out]; omega, hfl, ?_, Hm.out, Hap.out, by rw [HN.out]; exact Hnx.out⟩
      refine ⟨by rw [← Hft.out]; simp [Hcs'.out], Or.inr ⟨_, _, cur', rfl, by rw [HN.out]; omega, Hblk.out, Nat.le_refl _, by unfold maxLen; omega, Hcs'.out, Hft.out⟩⟩
end Go.Proofs.YtojpjaifhjigfaaGreatDoor

/- newAgent: a new agent, in new memory. -/
namespace Go.Proofs.YtojpjaifhjigfaaGreatDoor
open Go.RowKit Go.Maps

set_option maxRecDepth 100000 in
set_option maxHeartbeats 400000 in
theorem clone_some (b : Nat) (es : Array MapEntry) (clock : Nat) (w : World) (hb : w.heap[b]? = some (.map es clock)) :
    Calls Tryz.prog 98 #[.map (some b)] w fun e w' => e = .returned (.map (some w.heap.size)) ∧ w' = w.alloc (.map es clock) := by
  have hq := fun w => run_eql_map_nil (P := Tryz.prog) w 22 _ _ (some b) Tryz.underlying22
  go_enter Tryz.func98, Tryz.ntmps98
  go_wp2
  rw [run_callFunc_extern Tryz.func124 (by kernel_rfl) (by kernel_rfl) (by kernel_rfl) (e := Extern.MapsClone.clone) (by kernel_rfl), run_maps_clone_sl w 22 hb]
  simp only [Result.andThen]
  rw [Oper.upon_value]
  go_wp2
  rw [run_typeAssert_map_sl _ 22 20 _ _ _ Tryz.underlying22]
  simp only [Result.andThen]
  rw [Oper.upon_value]
  go_wp2
  go_ret
  exact ⟨rfl, rfl⟩

theorem below_alloc_size {B : Nat} {w w' : World} {o : Obj} (h : Below B (w.alloc o) w') : w.heap.size + 1 ≤ w'.heap.size := by
  have := h.size
  simpa using this

theorem ownsRow_shape {w : World} {base : Nat} {e : TypeId} {size : Nat} {v : Value} {n : Nat} {xs : List Value} (h : w.ownsRow base e size v n xs) : ∃ a k, v = .slice a n k := by
  rcases h.2 with ⟨rfl, rfl⟩ | ⟨g, cap, cur, rfl, _⟩
  · exact ⟨_, _, rfl⟩
  · exact ⟨_, _, rfl⟩

/-- The parts of a new agent. -/
structure NewAg (w w' : World) (c : Cfg) (D : DataW Unit) (g bq bm cn go : Nat) (nv : Value) (ns : List (List UInt8)) (fs : List (Value × Value)) : Prop where
  blk : Blk w' g (agCells bq bm (.slice none 0 0) (.slice none 0 0) nv (.slice none 0 0) (.slice (some ⟨go, 0, none⟩) c.d.toNat c.d.toNat) (Ag.new c D ns)) 138
  bg : w.heap.size ≤ g
  qm : w'.heap[bq]? = some (.map #[] 0)
  bbq : w.heap.size ≤ bq
  cm : OM w' bm cn D
  bbm : w.heap.size ≤ bm
  ne : bq ≠ bm
  nm : w'.ownsRow w.heap.size 9 1 nv ns.length (ns.map encStr)
  pm : ns.Perm (strKeys D)
  so : ns.Pairwise (fun x y => x ≤ y)
  ol : w'.ownsRow w.heap.size 149 10 (.slice (some ⟨go, 0, none⟩) c.d.toNat c.d.toNat) c.d.toNat (fs.flatMap fun f => (Out.zero (Maps.size D)).cells f.1 f.2)
  bo : w.heap.size ≤ go
  fl : fs.length = c.d.toNat
  md : Made w' (go + 1) c.th (Maps.size D) fs
  ap : Apart fs
  bw : Below w.heap.size w w'

set_option maxRecDepth 100000 in
set_option maxHeartbeats 2000000 in
theorem newAgent_any (c : Cfg) (b nb : Nat) (D : DataW Unit) (w : World) (h0 : 1 ≤ c.d) (h1 : c.d ≤ 4) (hown : OM w b nb D) (hsz : Maps.size D ≤ 8) : Calls Tryz.prog 63 #[c.val (some b)] w fun e w' =>
    ∃ g bq bm cn go nv ns fs, e = .returned (.pointer (some ⟨g, 0, none⟩)) ∧ NewAg w w' c D g bq bm cn go nv ns fs := by
  have HO := hide hown
  have hsz' : Maps.size D ≤ 120 := by omega
  clear hown
  go_enter Tryz.func63, Tryz.ntmps63
  go_wp2_with fail
  obtain ⟨es, clock, hb0, hb1⟩ := HO.out.alloc (.cells (c.cells (some b)) 25)
  refine (clone_some b es clock _ hb0).mono ?_
  rintro e w' ⟨rfl, rfl⟩
  have hbl := HO.out.lt
  clear hb0
  go_wp2_with fail
  generalize hW : World.alloc (World.alloc w _) (Obj.map es clock) = W
  have hB : Below w.heap.size w W := by rw [← hW]; exact ((Below.refl _ _).alloc (Nat.le_refl _) _).alloc (by simp) _
  have hK : Blk W w.heap.size (c.cells (some (w.heap.size + 1))) 25 := by rw [← hW]; exact (Blk.new w _ _).alloc _
  have hM : OM W (w.heap.size + 1) nb D := by
    rw [← hW]
    exact ⟨es, clock, obj_new (by simp) _, hb1⟩
  have hlt : w.heap.size < W.heap.size := hK.lt
  have hltm : w.heap.size + 1 < W.heap.size := hM.lt
  have e0 := hK.cell 0
  have e1 := hK.cell 1
  have e2 := hK.cell 2
  have e3 := hK.cell 3
  have e4 := hK.cell 4
  have e5 := hK.cell 5
  have e6 := hK.cell 6
  have e7 := hK.cell 7
  have e8 := hK.cell 8
  have e9 := hK.cell 9
  have e10 := hK.cell 10
  simp at e0 e1 e2 e3 e4 e5 e6 e7 e8 e9 e10
  have HB := hide hB
  have HK := hide hK
  have HM := hide hM
  clear hB hK hW hM hb1
  go_region_held3 (fun w' => w'.cell? ⟨w.heap.size, 0, none⟩ = some (.int .i64 c.d) ∧ w'.cell? ⟨w.heap.size, 1, none⟩ = some (.map (some (w.heap.size + 1))) ∧ w'.cell? ⟨w.heap.size, 2, none⟩ = some (.int .i64 c.q) ∧ w'.cell? ⟨w.heap.size, 3, none⟩ = some (.int .i64 c.at') ∧ w'.cell? ⟨w.heap.size, 4, none⟩ = some (.int .i64 c.ba) ∧ w'.cell? ⟨w.heap.size, 5, none⟩ = some (.int .i64 c.ca) ∧ w'.cell? ⟨w.heap.size, 6, none⟩ = some (.int .i64 c.ti) ∧ w'.cell? ⟨w.heap.size, 7, none⟩ = some (.int .i64 c.wi) ∧ w'.cell? ⟨w.heap.size, 8, none⟩ = some (.int .i64 c.le) ∧ w'.cell? ⟨w.heap.size, 9, none⟩ = some (.float .f64 c.th) ∧ w'.cell? ⟨w.heap.size, 10, none⟩ = some (.int .i64 c.op)) (go_keep)
    (first
      | (go_at_call 99; refine (newLasting_any _).mono ?_; rintro e w1 ⟨bq, rfl, hb1, hq1, hq2⟩; have hc1 := fun o => hb1.cell (p := ⟨w.heap.size, o, none⟩) hlt; have hz1 : W.heap.size ≤ w1.heap.size := hb1.size; have hlt1 : w.heap.size < w1.heap.size := Nat.lt_of_lt_of_le hlt hz1; have Hb1 := hide hb1; have Hq1 := hide hq1; have Hq2 := hide hq2; clear hb1 hq1 hq2)
      | (go_at_call 101; refine (keys_any _ _).mono ?_; rintro e w' ⟨rfl, rfl⟩)
      | (go_at_call 100; refine (sorted_any (w.heap.size + 1) nb D w1 (om_below (w := W.drew) HM.out Hb1.out hltm) hsz').mono ?_; rintro e w2 ⟨nv, ss, rfl, hp2, hr2, hb2⟩; obtain ⟨na, nk, rfl⟩ := ownsRow_shape hr2; have hc2 := fun o => (hb2.cell (p := ⟨w.heap.size, o, none⟩) (Nat.lt_succ_of_lt hlt1)).trans (World.cell?_of_block (Below.heap_alloc _ _ _ hlt1)); have hz2 := below_alloc_size hb2; have Hb2 := hide hb2; have Hp2 := hide hp2; have Hr2 := hide hr2; clear hb2 hp2 hr2)
      | (go_at_call 102; refine (newOutlets_any c (w.heap.size + 1) nb D w2 h0 h1 (om_below ((om_below (w := W.drew) HM.out Hb1.out hltm).alloc _) Hb2.out (Nat.lt_succ_of_lt (Nat.lt_of_lt_of_le hltm hz1))) hsz).mono ?_; rintro e w3 ⟨go, fs, rfl, ho1, ho2, ho3, ho4, ho5, hb3⟩; have hc3 := fun o => hb3.cell (p := ⟨w.heap.size, o, none⟩) (Nat.lt_of_lt_of_le hlt1 (Nat.le_of_succ_le hz2)); have Ho1 := hide ho1; have Ho2 := hide ho2; have Ho3 := hide ho3; have Ho4 := hide ho4; have Ho5 := hide ho5; have Hb3 := hide hb3; clear ho1 ho2 ho3 ho4 ho5 hb3))
  all_goals
    go_wp2_with fail
    go_ret
    have hbW3 : Below w.heap.size w w3 := ((HB.out.drew.trans (Hb1.out.mono (Nat.le_of_lt hlt))).alloc (Nat.le_of_lt hlt1) _).trans ((Hb2.out.mono (by omega)).trans (Hb3.out.mono (by omega)))
    have hb13 : Below w1.heap.size w1 w3 := ((Below.refl _ _).alloc (Nat.le_refl _) _).trans ((Hb2.out.mono (by omega)).trans (Hb3.out.mono (by omega)))
    have hq1 : W.heap.size ≤ bq := Hq1.out
    have hbq : bq < w1.heap.size := (Array.getElem?_eq_some_iff.1 Hq2.out).1
    have hW1 : W.heap.size ≤ w1.heap.size := hz1
    have ho1 : w2.heap.size ≤ go := Ho1.out
    have hsrt : (ss.mergeSort (fun x y => decide (x ≤ y))).Perm (strKeys D) := (List.mergeSort_perm ss _).trans Hp2.out
    refine ⟨w3.heap.size, bq, w.heap.size + 1, nb, go, .slice na ss.length nk, ss.mergeSort (fun x y => decide (x ≤ y)), fs, rfl, { blk := ?_, bg := hbW3.size, qm := ?_, bbq := by omega, cm := ?_, bbm := by omega, ne := by omega, nm := ?_, pm := hsrt, so := ?_, ol := ?_, bo := by omega, fl := Ho2.out, md := ?_, ap := Ho5.out, bw := hbW3.alloc hbW3.size _ }⟩
    · exact Blk.made rfl _ _
    · rw [Below.heap_alloc _ _ _ (Nat.lt_of_lt_of_le hbq hb13.size), hb13.block bq hbq]
      exact Hq2.out
    · exact (om_below (om_below (w := W.drew) HM.out Hb1.out hltm) hb13 (Nat.lt_of_lt_of_le hltm hW1)).alloc _
    · rw [show (ss.mergeSort (fun x y => decide (x ≤ y))).length = ss.length from List.length_mergeSort _]
      refine ⟨by simp, ?_⟩
      rcases Hr2.out.2 with h | ⟨g, cap, cur, q1, q2, q3, q4⟩
      · exact Or.inl h
      · refine Or.inr ⟨g, cap, cur, q1, by omega, ?_, q4⟩
        have hg : g < w2.heap.size := (Array.getElem?_eq_some_iff.1 q3).1
        rw [Below.heap_alloc _ _ _ (Nat.lt_of_lt_of_le hg Hb3.out.size), Hb3.out.block g hg]
        exact q3
    · have := List.pairwise_mergeSort (le := fun x y : List UInt8 => decide (x ≤ y)) (fun a b c h1 h2 => by simp at *; exact List.le_trans h1 h2) (fun a b => by simp; exact List.le_total a b) ss
      exact this.imp (fun h => by simpa using h)
    · have h3 := Ho3.out.alloc (Obj.cells (agCells bq (w.heap.size + 1) (.slice none 0 0) (.slice none 0 0) (.slice na ss.length nk) (.slice none 0 0) (.slice (some ⟨go, 0, none⟩) c.d.toNat c.d.toNat) (Ag.new c D (ss.mergeSort (fun x y => decide (x ≤ y))))) 138)
      refine ⟨h3.1, ?_⟩
      rcases h3.2 with ⟨h, _⟩ | ⟨g, cap, cur, q1, q2, q3⟩
      · cases h
      · exact Or.inr ⟨g, cap, cur, q1, by omega, q3⟩
    · exact Ho4.out.keep (fun g cur t hb _ => hb.alloc _)
end Go.Proofs.YtojpjaifhjigfaaGreatDoor

/- Open of an empty log: a new agent, labelled; or ErrConfig. -/
namespace Go.Proofs.YtojpjaifhjigfaaGreatDoor
open Go.RowKit Go.Maps

theorem infoRetry : (Tryz.prog.info? 189).map (fun i => (i.zero, i.size, i.bytes)) = some (some (.agg #[.int .i64 0, .int .i64 0]), 2, 16) := by kernel_rfl

/-- Nothing goes over where one of the two has no element, whatever the elements. -/
theorem run_copy_zero {P : Program} (w : World) (dT sT ty elem : TypeId) (d a : Addr) (dLen dCap sLen sCap : Nat) (hu : P.underlying dT = some (.slice elem)) {i : TypeInfo} (hs : P.info? elem = some i) (hn : Nat.min sLen dLen = 0) :
    (Builtin.copy_ #[dT, sT] ty #[.slice (some d) dLen dCap, .slice (some a) sLen sCap]).run P w = .ok (.int .i64 0) w := by
  have hl : ∀ (x : Addr), (loadCells x 0).run P w = .ok #[] w := fun x => by simpa using run_loadCells_list (P := P) w x [] (by simp)
  simp [Builtin.copy_, run_underlying hu, Builtin.lenOf, Builtin.firstCells, sizeOf, typeInfo, hs, hn, storeCells, hl, goInt]

set_option maxRecDepth 100000 in
set_option maxHeartbeats 1000000 in
theorem repeat_zero (gx : Nat) (w : World) : Calls Tryz.prog 107 #[.slice (some ⟨gx, 0, none⟩) 1 1, .int .i64 0] w fun e w' => e = .returned (.slice (some ⟨w.heap.size, 0, none⟩) 0 0) ∧ w' = w.alloc (.cells #[] 189) := by
  obtain ⟨i1, hi1, hy0, hy1, hy2⟩ := info_parts infoRetry
  have hmk : ∀ W : World, (Instr.makeSlice 135 (.int .i64 0) (.int .i64 0)).run Tryz.prog W = .ok (.slice (some ⟨W.heap.size, 0, none⟩) 0 0) (W.alloc (.cells #[] 189)) := fun W => by
    have := run_make (P := Tryz.prog) W 135 189 i1 _ Tryz.underlying135 hi1 hy0 .i64 .i64 0 0 (by omega) (by omega) (by rw [hy2]; omega) (by omega)
    rw [this]
    congr 3
    simp [madeCells]
  have H := fun w => hide (bitsMul_any 1 0 (by omega) (by omega) w)
  have hcp := fun W d => run_copy_zero (P := Tryz.prog) W 135 135 3 189 d ⟨gx, 0, none⟩ 0 0 1 1 Tryz.underlying135 hi1 (by decide)
  go_enter Tryz.func107, Tryz.ntmps107
  go_wp2_with fail
  refine (H _).out.mono ?_
  rintro e w' ⟨rfl, rfl⟩
  go_wp2_with fail
  refine wp_loop_rounds 1 ?_
  rw [rounds_succ]
  go_wp2_with fail
  go_ret
  exact ⟨rfl, rfl⟩

set_option maxRecDepth 100000 in
set_option maxHeartbeats 1000000 in
theorem replay_empty (g : Nat) (ba : Int) (w : World) (cur : Array Value) (hK : Blk w g cur 138) (h0 : cur[0]? = some (.slice none 0 0)) (h3 : cur[3]? = some (.string ⟨#[]⟩)) (h8 : cur[8]? = some (.int .i64 ba)) (h17 : cur[17]? = some (.slice none 0 0)) :
    Calls Tryz.prog 64 #[.pointer (some ⟨g, 0, none⟩), .string ⟨#[]⟩] w fun e w' => ∃ gr, e = .returned (.bool true) ∧ w.heap.size ≤ gr ∧ Blk w' g (cur.setIfInBounds 17 (.slice (some ⟨gr, 0, none⟩) 0 0)) 138 ∧ Blk w' gr #[] 189 ∧ (∀ q, q < w.heap.size → q ≠ g → w'.heap[q]? = w.heap[q]?) ∧ Below g w w' := by
  have c0 : w.cell? ⟨g, 0, none⟩ = some (.slice none 0 0) := (hK.cell 0).trans h0
  have c3 : w.cell? ⟨g, 3, none⟩ = some (.string ⟨#[]⟩) := (hK.cell 3).trans h3
  have c8 : w.cell? ⟨g, 8, none⟩ = some (.int .i64 ba) := (hK.cell 8).trans h8
  have c17 : w.cell? ⟨g, 17, none⟩ = some (.slice none 0 0) := (hK.cell 17).trans h17
  have f3 := hK.frozen 3
  have f17 := hK.frozen 17
  have hgl := hK.lt
  have HK := hide hK
  have H := fun w => hide (strClone_any ⟨#[]⟩ w (by simp [ByteArray.size]))
  clear hK h0 h3 h8 h17
  go_enter Tryz.func64, Tryz.ntmps64
  go_wp2_with fail
  refine wp_loop_rounds 1 ?_
  rw [rounds_succ]
  go_wp2_with fail
  refine (H _).out.mono ?_
  rintro e w1 ⟨rfl, hb1⟩
  have hb1w : Below w.heap.size w w1 := ((Below.refl _ _).alloc (Nat.le_refl _) _).trans (hb1.mono (by simp))
  have hK1 : Blk w1 g cur 138 := HK.out.below hb1w hgl
  have d3 : w1.cell? ⟨g, 3, none⟩ = some (.string ⟨#[]⟩) := (hb1w.cell (p := ⟨g, 3, none⟩) hgl).trans c3
  have e3 := hK1.frozen 3
  have hsame : cur.setIfInBounds 3 (.string ⟨#[]⟩) = cur := by
    have h3 := (HK.out.cell 3).symm.trans c3
    apply Array.ext_getElem?
    intro i
    rw [Array.getElem?_setIfInBounds]
    split
    · rename_i e
      subst e
      split
      · exact h3.symm
      · rename_i hl
        rw [Array.getElem?_eq_none (by omega)] at h3
        cases h3
    · rfl
  have Hb1 := hide hb1w
  have HK1 := hide hK1
  have Hs := hide hsame
  have Hc0 := hide ((HK.out.cell 0).symm.trans c0)
  have Hc8 := hide ((HK.out.cell 8).symm.trans c8)
  have Hc17 := hide ((HK.out.cell 17).symm.trans c17)
  clear hb1 hb1w hK1 hsame c0 c3 c8 c17 f3 f17
  go_wp2_with fail
  generalize hV : World.setCell w1 _ _ = V
  have hKV : Blk V g cur 138 := by
    rw [← hV, ← Hs.out]
    exact HK1.out.set 3 _
  have hzV : V.heap.size = w1.heap.size := by rw [← hV]; simp [World.setCell]
  have hoV : ∀ q, q < w.heap.size → q ≠ g → V.heap[q]? = w.heap[q]? := fun q hq hne => by
    rw [← hV, Below.heap_setCell _ _ _ _ hne]
    exact Hb1.out.block q hq
  have hBV : Below g w V := by rw [← hV]; exact (Hb1.out.mono (Nat.le_of_lt hgl)).setCell (Nat.le_refl _) _
  have k0 : V.cell? ⟨g, 0, none⟩ = some (.slice none 0 0) := (hKV.cell 0).trans Hc0.out
  have k8 : V.cell? ⟨g, 8, none⟩ = some (.int .i64 ba) := (hKV.cell 8).trans Hc8.out
  have k17 : V.cell? ⟨g, 17, none⟩ = some (.slice none 0 0) := (hKV.cell 17).trans Hc17.out
  have f17 := hKV.frozen 17
  have hgV := hKV.lt
  have n0 := World.new_ne V ⟨g, 0, none⟩ k0
  have n8 := World.new_ne V ⟨g, 8, none⟩ k8
  have n17 := World.new_ne V ⟨g, 17, none⟩ k17
  have m0 := fun v => ((hKV.set 17 v).cell 0).trans ((show (cur.setIfInBounds 17 v)[0]? = cur[0]? by simp).trans Hc0.out)
  have m8 := fun v => ((hKV.set 17 v).cell 8).trans ((show (cur.setIfInBounds 17 v)[8]? = cur[8]? by simp).trans Hc8.out)
  have HKV := hide hKV
  have HzV := hide hzV
  have HoV := hide hoV
  have HBV := hide hBV
  have Hz1 : Hid (w.heap.size ≤ w1.heap.size) := Hb1.out.size
  clear hV hKV hzV hoV hBV HK1 Hs d3 e3
  go_region_held3 (fun w' => w'.cell? ⟨g, 0, none⟩ = some (.slice none 0 0) ∧ w'.cell? ⟨g, 8, none⟩ = some (.int .i64 ba)) (go_keep)
    (first
      | (go_at_call 107; refine (repeat_zero _ _).mono ?_; rintro e w2 ⟨rfl, rfl⟩))
  all_goals
    go_wp2_with fail
    go_ret
    have hz := HzV.out
    have hz1 := Hz1.out
    refine ⟨V.heap.size + 1, rfl, by omega, ((HKV.out.set 17 _).alloc _).alloc _, Blk.made (by simp [World.setCell]) _ _, fun q hq hne => ?_, ?_⟩
    · show (World.alloc (World.alloc (World.setCell V _ _) _) _).heap[q]? = _
      rw [Below.heap_alloc _ _ _ (by simp [World.setCell]; omega), Below.heap_alloc _ _ _ (by simp [World.setCell]; omega), Below.heap_setCell _ _ _ _ hne]
      exact HoV.out q hq hne
    · exact (((HBV.out.setCell (Nat.le_refl _) _).alloc (by simp [World.setCell]; omega) _).alloc (by simp [World.setCell]; omega) _).drew

/-- The labels of what a new agent has brought. -/
def newLabs (L : Labs) (n : Nat) (w : World) (who bq : Nat) (fs : List (Value × Value)) : Labs := fun k =>
  if k < n then L k else match w.heap[k]? with
  | some (.cells _ t _) => if t = 138 then some (who, .ag) else if t = 149 then some (who, .ol) else if t = 9 then some (who, .nm) else if t = 23 then some (who, .th 0) else if t = 189 then some (who, .rt) else
      if t = 3 then some (who, .cr ((fs.findIdx? fun f => f.2.ownBlock == some k).getD 0)) else none
  | some (.map _ _) => if k = bq then some (who, .qm) else some (who, .cm)
  | _ => none
theorem newLabs_old (L : Labs) (n : Nat) (w : World) (who bq : Nat) (fs : List (Value × Value)) : ∀ k, k < n → newLabs L n w who bq fs k = L k := fun k hk => by simp [newLabs, hk]
theorem newLabs_none {L : Labs} {n : Nat} {w : World} {who bq : Nat} {fs : List (Value × Value)} {k : Nat} (hn : n ≤ w.heap.size) (hk : w.heap.size ≤ k) : newLabs L n w who bq fs k = none := by
  have h : w.heap[k]? = none := Array.getElem?_eq_none hk
  simp [newLabs, h, Nat.not_lt.2 (Nat.le_trans hn hk)]
theorem newLabs_cells {L : Labs} {n : Nat} {w : World} {who bq : Nat} {fs : List (Value × Value)} {k : Nat} {cs : Array Value} {t : TypeId} (hk : n ≤ k) (h : Blk w k cs t) : newLabs L n w who bq fs k =
    if t = 138 then some (who, .ag) else if t = 149 then some (who, .ol) else if t = 9 then some (who, .nm) else if t = 23 then some (who, .th 0) else if t = 189 then some (who, .rt) else
      if t = 3 then some (who, .cr ((fs.findIdx? fun f => f.2.ownBlock == some k).getD 0)) else none := by
  unfold Blk at h
  simp [newLabs, h, Nat.not_lt.2 hk]
theorem newLabs_map {L : Labs} {n : Nat} {w : World} {who bq : Nat} {fs : List (Value × Value)} {k : Nat} {es : Array MapEntry} {cl : Nat} (hk : n ≤ k) (h : w.heap[k]? = some (.map es cl)) : newLabs L n w who bq fs k = if k = bq then some (who, .qm) else some (who, .cm) := by
  simp [newLabs, h, Nat.not_lt.2 hk]

theorem queuesAt_empty {w : World} {L : Labs} {who b : Nat} (h : w.heap[b]? = some (.map #[] 0)) (hl : L b = some (who, .qm)) : QueuesAt w L who b [] := by
  refine ⟨.map [], ⟨?_, hl⟩, Nat.le_refl _, fun d t _ hh => by simp [Maps.has] at hh, fun d t _ hp => absurd (pend_nil d t) hp, fun d t _ => RowAt.nil _ _ _ _ _⟩
  obtain ⟨es, clock, hb, F, hs, hD⟩ := World.ownsMap_made w Tryz.prog 202 Rq
  rw [obj_new rfl] at hb
  cases hb
  exact ⟨#[], 0, h, F, hs, hD⟩

theorem apart_find {fs : List (Value × Value)} (h : Apart fs) {i : Nat} {f : Value × Value} {g : Nat} (hf : fs[i]? = some f) (hg : f.2.ownBlock = some g) : fs.findIdx? (fun f => f.2.ownBlock == some g) = some i := by
  rw [List.findIdx?_eq_some_iff_getElem]
  obtain ⟨h1, h2⟩ := List.getElem?_eq_some_iff.1 hf
  refine ⟨h1, by simp [h2, hg], fun j hj => ?_⟩
  have := h j i _ f hj (List.getElem?_eq_getElem (by omega)) hf
  rw [hg] at this
  simpa using this

theorem zip_flat (o : Out) : ∀ fs : List (Value × Value), ((List.replicate fs.length o).zip fs).flatMap (fun p => p.1.cells p.2.1 p.2.2) = fs.flatMap fun f => o.cells f.1 f.2
  | [] => rfl
  | f :: fs => by rw [List.length_cons, List.replicate_succ, List.zip_cons_cons, List.flatMap_cons, List.flatMap_cons, zip_flat o fs]

/-- A new agent, behind replay of an empty log, with its labels. -/
theorem agentAt_new {w w1 w2 : World} {c : Cfg} {D : DataW Unit} {g bq bm cn go gr : Nat} {nv : Value} {ns : List (List UInt8)} {fs : List (Value × Value)} (L : Labs) (who : Nat) (h : NewAg w w1 c D g bq bm cn go nv ns fs) (hgr : w1.heap.size ≤ gr) (hsz : Maps.size D = ns.length)
    (hK : Blk w2 g ((agCells bq bm (.slice none 0 0) (.slice none 0 0) nv (.slice none 0 0) (.slice (some ⟨go, 0, none⟩) c.d.toNat c.d.toNat) (Ag.new c D ns)).setIfInBounds 17 (.slice (some ⟨gr, 0, none⟩) 0 0)) 138) (hr : Blk w2 gr #[] 189)
    (ho : ∀ q, q < w1.heap.size → q ≠ g → w2.heap[q]? = w1.heap[q]?) : AgentAt w2 (newLabs L w.heap.size w2 who bq fs) who g (Ag.new c D ns) := by
  have hmap : ∀ (b : Nat) (es : Array MapEntry) (cl : Nat), w1.heap[b]? = some (.map es cl) → w2.heap[b]? = some (.map es cl) := fun b es cl hb => by
    rw [ho b (Array.getElem?_eq_some_iff.1 hb).1 (fun e => by subst e; have := h.blk; unfold Blk at this; rw [hb] at this; cases this)]
    exact hb
  have hblk : ∀ b cs t, Blk w1 b cs t → t ≠ 138 → Blk w2 b cs t := fun b cs t hb ht => by
    unfold Blk
    rw [ho b hb.lt (fun e => by subst e; have := h.blk; unfold Blk at this hb; rw [hb] at this; cases this; exact ht rfl)]
    exact hb
  have hw1 : w.heap.size ≤ w1.heap.size := h.bw.size
  refine ⟨bq, bm, cn, .slice none 0 0, .slice none 0 0, nv, .slice (some ⟨gr, 0, none⟩) 0 0, .slice (some ⟨go, 0, none⟩) c.d.toNat c.d.toNat, ?_⟩
  refine { blk := ⟨hK, by rw [newLabs_cells h.bg hK]; rfl⟩, tk := RowAt.nil _ _ _ _ _, qs := queuesAt_empty (hmap _ _ _ h.qm) (by rw [newLabs_map h.bbq (hmap _ _ _ h.qm)]; simp), dd := RowAt.nil _ _ _ _ _, nm := ?_, rt := ?_, ol := ?_, cm := ?_ }
  · refine ⟨⟨h.nm.1, ?_⟩, fun q hq => ?_⟩
    · rcases h.nm.2 with q | ⟨q, cap, cur, q1, q2, q3, q4⟩
      · exact Or.inl q
      · exact Or.inr ⟨q, cap, cur, q1, Nat.zero_le _, hblk _ _ _ q3 (by decide), q4⟩
    · rcases h.nm.2 with ⟨q1, _⟩ | ⟨q', cap, cur, q1, q2, q3, q4⟩
      · rw [q1] at hq; cases hq
      · rw [q1] at hq
        obtain rfl : q' = q := by simpa [Value.ownBlock] using hq
        rw [newLabs_cells q2 (hblk _ _ _ q3 (by decide))]
        rfl
  · refine ⟨⟨rfl, Or.inr ⟨gr, 0, #[], rfl, Nat.zero_le _, hr, Nat.le_refl _, Nat.zero_le _, rfl, rfl⟩⟩, fun q hq => ?_⟩
    obtain rfl : gr = q := by simpa [Value.ownBlock] using hq
    rw [newLabs_cells (by omega) hr]
    rfl
  · have hfl := h.fl
    refine ⟨fs, by simp [Ag.new, hfl], ?_, fun i o f hio hif => ?_⟩
    · have e : (Ag.new c D ns).os.length = c.d.toNat := by simp [Ag.new]
      have e2 : (((Ag.new c D ns).os.zip fs).flatMap fun p => p.1.cells p.2.1 p.2.2) = fs.flatMap fun f => (Out.zero (Maps.size D)).cells f.1 f.2 := by
        rw [← zip_flat, hfl, hsz]
        rfl
      rw [e, e2]
      refine ⟨⟨h.ol.1, ?_⟩, fun q hq => ?_⟩
      · rcases h.ol.2 with ⟨q, _⟩ | ⟨q, cap, cur, q1, q2, q3, q4⟩
        · cases q
        · exact Or.inr ⟨q, cap, cur, q1, Nat.zero_le _, hblk _ _ _ q3 (by decide), q4⟩
      · rcases h.ol.2 with ⟨q, _⟩ | ⟨q', cap, cur, q1, q2, q3, q4⟩
        · cases q
        · rw [q1] at hq
          obtain rfl : q' = q := by simpa [Value.ownBlock] using hq
          rw [newLabs_cells q2 (hblk _ _ _ q3 (by decide))]
          rfl
    · have hoz : o = Out.zero (Maps.size D) := by
        have := List.mem_of_getElem? hio
        simp only [Ag.new, List.mem_replicate] at this
        rw [this.2, hsz]
        rfl
      subst hoz
      obtain ⟨g1, g2, hf, b1, b2, k1, k2⟩ := h.md i f hif
      have hgo := h.bo
      refine ⟨g1, by rw [hf], ⟨hblk _ _ _ k1 (by decide), by rw [newLabs_cells (by omega) (hblk _ _ _ k1 (by decide))]; rfl⟩, ⟨?_, fun q hq => ?_⟩⟩
      · rw [hf]
        have e : (Out.zero (Maps.size D)).cr.length = Maps.size D := by simp [Out.zero]
        have e2 : intsI (Out.zero (Maps.size D)).cr = List.replicate (Maps.size D) (.int .i64 0) := by simp [Out.zero, intsI]
        rw [e, e2]
        refine ⟨k2.1, ?_⟩
        rcases k2.2 with ⟨q, _⟩ | ⟨q, cap, cur, q1, q2, q3, q4⟩
        · cases q
        · exact Or.inr ⟨q, cap, cur, q1, Nat.zero_le _, hblk _ _ _ q3 (by decide), q4⟩
      · have hfo : f.2.ownBlock = some g2 := by rw [hf]; rfl
        rw [hfo] at hq
        obtain rfl : g2 = q := by simpa using hq
        rcases k2.2 with ⟨q, _⟩ | ⟨q, cap, cur, q1, q2, q3, q4⟩
        · cases q
        · obtain rfl : g2 = q := by simpa using (by simpa using q1 : g2 = q ∧ _).1
          rw [newLabs_cells (by omega) (hblk _ _ _ q3 (by decide)), apart_find h.ap hif hfo]
          rfl
  · refine ⟨?_, ?_⟩
    · obtain ⟨es, cl, hb, r⟩ := h.cm
      exact ⟨es, cl, hmap _ _ _ hb, r⟩
    · obtain ⟨es, cl, hb, r⟩ := h.cm
      rw [newLabs_map h.bbm (hmap _ _ _ hb), if_neg (fun e => h.ne e.symm)]
end Go.Proofs.YtojpjaifhjigfaaGreatDoor

/- conduitref.names: the names of a map, each once. -/
namespace Go.Proofs.YtojpjaifhjigfaaGreatDoor
open Go.RowKit Go.Maps

theorem infoString : (Tryz.prog.info? 9).map (fun i => (i.zero, i.size, i.bytes)) = some (some (.string ⟨#[]⟩), 1, 16) := by kernel_rfl

/-- The slice value v holds these texts, in memory from block B on. -/
def Texts (w : World) (B : Nat) (v : Value) (ss : List (List UInt8)) : Prop := w.ownsRow B 9 1 v ss.length (ss.map encStr)

theorem Texts.mono_base {w : World} {B B' : Nat} {v : Value} {ss : List (List UInt8)} (h : Texts w B v ss) (hB : B' ≤ B) : Texts w B' v ss := by
  refine ⟨h.1, ?_⟩
  rcases h.2 with h1 | ⟨g, cap, cur, h1, h2, h3⟩
  · exact Or.inl h1
  · exact Or.inr ⟨g, cap, cur, h1, Nat.le_trans hB h2, h3⟩
theorem Texts.shape {w : World} {B : Nat} {v : Value} {ss : List (List UInt8)} (h : Texts w B v ss) : ∃ a c, v = .slice a ss.length c := by
  rcases h.2 with ⟨rfl, h0⟩ | ⟨g, cap, cur, rfl, _⟩
  · exact ⟨none, 0, by rw [h0]⟩
  · exact ⟨_, _, rfl⟩

/-- Block g holds these texts, one a cell, with room for cap. -/
def RowS (w : World) (g cap : Nat) (ys : List (List UInt8)) : Prop := ∃ cur, Blk w g cur 9 ∧ cur.size = cap ∧ ys.length ≤ cap ∧ cap ≤ maxLen ∧ cur.toList.take ys.length = ys.map encStr
theorem RowS.of {w : World} {B g cap : Nat} {ys : List (List UInt8)} (h : w.ownsRow B 9 1 (.slice (some ⟨g, 0, none⟩) ys.length cap) ys.length (ys.map encStr)) : RowS w g cap ys := by
  rcases h.2 with ⟨h1, _⟩ | ⟨g', cap', cur, h1, _, h2, h3, h4, h5, h6⟩
  · cases h1
  · simp only [Value.slice.injEq, Option.some.injEq, Addr.mk.injEq, and_true, true_and] at h1
    obtain ⟨rfl, rfl⟩ := h1
    exact ⟨cur, h2, by simpa using h5, h3, h4, by simpa using h6⟩
theorem RowS.texts {w : World} {B g cap : Nat} {ys : List (List UInt8)} (h : RowS w g cap ys) (hB : B ≤ g) : Texts w B (.slice (some ⟨g, 0, none⟩) ys.length cap) ys := by
  obtain ⟨cur, h1, h2, h3, h4, h5⟩ := h
  exact ⟨by simp, Or.inr ⟨g, cap, cur, rfl, hB, h1, h3, h4, by simpa using h2, by simpa using h5⟩⟩
theorem RowS.cell {w : World} {g cap : Nat} {ys : List (List UInt8)} (h : RowS w g cap ys) (j : Nat) (hj : j < ys.length) : w.cell? ⟨g, j, none⟩ = some (encStr (ys[j]'hj)) := by
  obtain ⟨cur, h1, h2, h3, h4, h5⟩ := h
  rw [h1.cell j]
  have e : (cur.toList.take ys.length)[j]? = (ys.map encStr)[j]? := by rw [h5]
  rw [List.getElem?_take_of_lt hj, List.getElem?_map, List.getElem?_eq_getElem hj] at e
  simpa using e
theorem RowS.frozen {w : World} {g cap : Nat} {ys : List (List UInt8)} (h : RowS w g cap ys) (j : Nat) : w.frozen? ⟨g, j, none⟩ = false := by
  obtain ⟨cur, h1, _⟩ := h
  exact h1.frozen j
theorem RowS.set {w : World} {g cap : Nat} {ys : List (List UInt8)} (h : RowS w g cap ys) (k : Nat) (y : List UInt8) : RowS (w.setCell ⟨g, k, none⟩ (encStr y)) g cap (ys.set k y) := by
  obtain ⟨cur, h1, h2, h3, h4, h5⟩ := h
  refine ⟨_, h1.set k _, by simpa using h2, by simpa using h3, h4, ?_⟩
  rw [Array.toList_setIfInBounds, List.length_set, List.take_set, h5, List.map_set]

theorem rg_set {w : World} {b r n : Nat} {D : DataW Unit} {left : Lit → Bool} {cnt g : Nat} (h : RG w b r n D left cnt) (hb : b ≠ g) (hr : r ≠ g) (i : Nat) (v : Value) : RG (w.setCell ⟨g, i, none⟩ v) b r n D left cnt := by
  obtain ⟨es, clock, since, seen, c0, k1, k2, k3, k4, k5, k6⟩ := h
  exact ⟨es, clock, since, seen, c0, by rw [heap_setCell_other _ _ _ _ hb]; exact k1, k2, k3, k4, by rw [heap_setCell_other _ _ _ _ hr]; exact k5, k6⟩

theorem perm_shift (ys : List (List UInt8)) (j : Nat) (x : List UInt8) (h : j + 1 < ys.length) : ((ys.set (j + 1) (ys[j]'(by omega))).set j x).Perm (ys.set (j + 1) x) := by
  have hl : j + 1 < (ys.set (j + 1) x).length := by simpa using h
  have hl' : j < (ys.set (j + 1) x).length := by omega
  have : (((ys.set (j + 1) x).set (j + 1) ((ys.set (j + 1) x)[j]'hl')).set j ((ys.set (j + 1) x)[j + 1]'hl)).Perm (ys.set (j + 1) x) := List.set_set_perm hl hl'
  simpa using this

set_option maxHeartbeats 400000 in
theorem refNames_nil (w : World) : Calls Tryz.prog 78 #[.map none] w fun e w' => e = .returned (.slice none 0 0) ∧ Below w.heap.size w w' := by
  have hrg := run_range_nilMap (P := Tryz.prog) w 22 9 3 Tryz.underlying22
  have hnx : ∀ ty, (Instr.next (.pointer (some ⟨w.heap.size, 0, none⟩)) false ty).run Tryz.prog (w.alloc (.mapIter none 0 #[] 0)) = _ := fun ty => run_next_nilMap _ ty 0 0 #[]
  go_enter Tryz.func78, Tryz.ntmps78
  go_wp2
  refine wp_loop_rounds 1 ?_
  rw [rounds_succ]
  go_wp2
  go_ret
  exact ⟨rfl, (Below.refl _ _).alloc (Nat.le_refl _) _⟩

set_option maxRecDepth 100000 in
set_option maxHeartbeats 1000000 in
theorem refNames_some (b n : Nat) (D : DataW Unit) (w : World) (hown : OM w b n D) (hn : n ≤ big) :
    Calls Tryz.prog 78 #[.map (some b)] w fun e w' => ∃ v ss, e = .returned v ∧ Texts w' w.heap.size v ss ∧ ss.Perm (strKeys D) ∧ Below w.heap.size w w' := by
  obtain ⟨i0, hi, hz0, hz1, hz2⟩ := info_parts infoString
  have hbl := hown.lt
  have HO := hide hown
  have hsize : Maps.size D ≤ big := Nat.le_trans hown.size_le hn
  go_enter Tryz.func78, Tryz.ntmps78
  go_wp2_with (first
    | (at_range; refine wpList_range_own _ rfl _ 22 rfl 9 3 lawS Tryz.underlying22 _ b n _ rfl hown ?_; intro w0 hrg0 hg0 hs0)
    | fail)
  go_frame
  have Hg0 := hide hg0
  clear hg0 hs0 hown
  go_loopw [3] (fun v wr => ∃ (left : Lit → Bool) (cnt : Nat) (ss s0 : List (List UInt8)), RG wr b w.heap.size n D left cnt ∧ ss.length + cnt ≤ Maps.size D ∧
      Texts wr w.heap.size v ss ∧ ss.Perm s0 ∧ Collected D left s0 ∧ Below w.heap.size w wr)
    (fun _ wr => wr.rangeLeft b w.heap.size)
  case atStart =>
    exact ⟨_, _, [], [], hrg0, by simp, ⟨rfl, Or.inl ⟨rfl, rfl⟩⟩, List.Perm.refl _, Collected.start D, (Below.refl _ _).grown Hg0.out (Nat.le_refl _) (fun j hj => by cases hj)⟩
  case round =>
    obtain ⟨left, cnt, ss, s0, hrg, hcs, hrow, hperm, hC, hnx⟩ := hrel
    obtain ⟨a3, c3, rfl⟩ := hrow.shape
    have Hrow := hide hrow
    have Hp := hide hperm
    have HC := hide hC
    have Hnx := hide hnx
    clear hrow hperm hC hnx
    go_wp2_with (first
      | (at_next; refine wpList_next_ranges _ rfl _ rfl 9 lawS (plainElem Tryz.prog 3) encStr (Value.int .i64) invK invV b w.heap.size n _ _ _ rfl hrg ?_ ?_)
      | fail)
    · intro hc0 hl0
      have Hl0 := hide hl0
      clear hl0
      go_wp2_with fail
      go_ret
      exact ⟨_, ss, rfl, Hrow.out, Hp.out.trans (HC.out.perm HO.out lawS Tryz.underlying9 Hl0.out), Hnx.out⟩
    · intro x c kl yd yp w2 cnt2 hkey hlk hv hat hrg2 hlt hg2 hs2 hen
      obtain ⟨x', ex, rfl, hxl⟩ := Maps.keyOf_str Tryz.underlying9 hkey
      obtain rfl : x = x' := encStr_inj ex
      have hrow2 : Texts w2 w.heap.size _ ss := Hrow.out.kept hg2 (Or.inr (row_ne_iter Hrow.out hrg).symm)
      have HC2 := hide (HC.out.step hlk hat)
      have Hb2 : Hid (Below w.heap.size w w2) := Hnx.out.grown hg2 Hnx.out.size (fun j hj => by cases hj; exact Nat.le_refl _)
      have Hrg2 := hide hrg2
      have HM : Hid (cnt2 < wr.rangeLeft b w.heap.size) := by rw [hrg.left_eq]; exact hlt
      have hcnt : ss.length + 1 + cnt2 ≤ Maps.size D := by omega
      have hB2 : w.heap.size ≤ w2.heap.size := Hb2.out.size
      have hrl : some w.heap.size ≠ Value.ownBlock (.slice a3 ss.length c3) := row_ne_iter hrow2 hrg2
      have hbytes : (ss.length + 1) * 16 ≤ 140737488355328 := by unfold big at hsize; omega
      have h63 : ss.length + 1 ≤ maxLen := by unfold maxLen; unfold big at hsize; omega
      clear hs2 hkey hlk hv hat ex hg2 hrg2 hlt
      go_wp2_with (first
        | (at_builtin; refine wpList_append_lies _ rfl _ _ 85 rfl w.heap.size 9 i0 (.string ⟨#[]⟩) 1 16 Tryz.underlying85 hi hz0 hz1 hz2 rfl (by decide) _ _ _ rfl (hrow2.alloc _) ⟨w2.heap.size, 0, none⟩ 1 1 [encStr x] rfl rfl (cell_one_new _ _ _) (by simp [Value.oneCell', encStr]) (by decide) h63 hbytes (by simp; omega) (w2.heap.size + 1) (by simp) ?_; intro g cap w3 hown3 hg3 hat3 hlt3; go_frame)
        | fail)
      have hlen : (ss.map encStr ++ [encStr x]) = (ss ++ [x]).map encStr := by simp
      have hR3 : RowS w3 g cap (ss ++ [x]) := RowS.of (by rw [← hlen]; simpa using hown3)
      have hrg3 : RG w3 b w.heap.size n D _ cnt2 := (Hrg2.out.alloc _).kept hg3 (row_ne_low hrow2 hbl) hrl
      have hb3 : Below w.heap.size w w3 := (Hb2.out.alloc hB2 _).grown hg3 (by simp; omega) (fun j hj => (hrow2.lt j hj).1)
      have hgB : w.heap.size ≤ g := by
        rcases hat3 with h | h
        · exact (hrow2.lt g h).1
        · omega
      have hgr : w.heap.size ≠ g := by
        rcases hat3 with h | h
        · intro e; rw [e] at hrl; exact hrl h.symm
        · have := Hrg2.out.lt; omega
      have hbg : b ≠ g := by omega
      have HR3 := hide hR3
      have Hrg3 := hide hrg3
      have Hb3 := hide hb3
      clear hlen hR3 hrg3 hb3 hown3 hg3 hat3 hrl hrow2 hen
      go_loopw [5] (fun i wq => ∃ (k : Nat) (ys : List (List UInt8)), i = .int .i64 k ∧ k ≤ ss.length ∧ ys.length = ss.length + 1 ∧ RowS wq g cap ys ∧ (ys.set k x).Perm (ss ++ [x]) ∧
          RG wq b w.heap.size n D (fun z => left z && !z.sameKey (.string x)) cnt2 ∧ Below w.heap.size w wq) (fun i _ => (intOf i).toNat)
      case atStart => exact ⟨ss.length, ss ++ [x], rfl, Nat.le_refl _, by simp, HR3.out, by simp, Hrg3.out, Hb3.out⟩
      case round =>
        obtain ⟨k, ys, rfl, hk, hyl, hR, hP, hrgq, hbq⟩ := hrel
        have HR := hide hR
        have HP := hide hP
        have Hrgq := hide hrgq
        have Hbq := hide hbq
        clear hR hP hrgq hbq
        have hck : wr.cell? ⟨g, k, none⟩ = some (encStr (ys[k]'(by omega))) := HR.out.cell k (by omega)
        have hfk : wr.frozen? ⟨g, k, none⟩ = false := HR.out.frozen k
        have hkI : (k : Int) < (ss.length : Int) + 1 := by omega
        rcases k with _ | j
        · go_wp2_with fail
          go_roundw
          case rel => exact ⟨_, cnt2, ys.set 0 x, s0 ++ [x], rg_set Hrgq.out hbg hgr _ _, by simp [hyl]; omega, by have := (HR.out.set 0 x).texts hgB; simpa [hyl] using this, HP.out.trans (Hp.out.append_right [x]), HC2.out, Hbq.out.setCell hgB _⟩
          case measure => rw [(rg_set Hrgq.out hbg hgr _ _).left_eq]; exact HM.out
        · have hcj : wr.cell? ⟨g, j, none⟩ = some (encStr (ys[j]'(by omega))) := HR.out.cell j (by omega)
          go_wp2_with fail
          · go_roundw
            case rel => exact ⟨j, ys.set (j + 1) (ys[j]'(by omega)), rfl, by omega, by simpa using hyl, HR.out.set (j + 1) _, (perm_shift ys j x (by omega)).trans HP.out, rg_set Hrgq.out hbg hgr _ _, Hbq.out.setCell hgB _⟩
            case measure => simp [intOf]
          · go_roundw
            case rel => exact ⟨_, cnt2, ys.set (j + 1) x, s0 ++ [x], rg_set Hrgq.out hbg hgr _ _, by simp [hyl]; omega, by have := (HR.out.set (j + 1) x).texts hgB; simpa [hyl] using this, HP.out.trans (Hp.out.append_right [x]), HC2.out, Hbq.out.setCell hgB _⟩
            case measure => rw [(rg_set Hrgq.out hbg hgr _ _).left_eq]; exact HM.out

theorem refNames_any (m : Option Nat) (D : DataW Unit) (w : World) (h : MapAt w m D) :
    Calls Tryz.prog 78 #[.map m] w fun e w' => ∃ v ss, e = .returned v ∧ Texts w' w.heap.size v ss ∧ ss.Perm (strKeys D) ∧ Below w.heap.size w w' := by
  rcases h with ⟨rfl, rfl⟩ | ⟨b, n, rfl, h2, h3⟩
  · refine (refNames_nil w).mono ?_
    rintro e w' ⟨rfl, hb⟩
    exact ⟨_, [], rfl, ⟨rfl, Or.inl ⟨rfl, rfl⟩⟩, List.Perm.refl _, hb⟩
  · exact refNames_some b n D w h2 h3
end Go.Proofs.YtojpjaifhjigfaaGreatDoor
