/- Steps of the proof (several texts in one): Outlets, NewAgent, Bytes, Written. -/
import Derived.Test.YtojpjaifhjigfaaGreatDoorMAllupto06
import Derived.Deep.AppendSrc
import Derived.Deep.DeepCutAuto

/- newOutlets: the destinations of a new agent. -/
namespace Go.Proofs.YtojpjaifhjigfaaGreatDoor
open Go.RowKit Go.Maps

theorem infoOutlet : (Tryz.prog.info? 149).map (fun i => (i.zero, i.size, i.bytes)) = some (some (.agg #[.nilFunc, .int .i64 0, .int .i64 0, .bool false, .int .i64 0, .int .i64 0, .slice none 0 0, .int .i64 0, .int .i64 0, .int .i64 0]), 10, 96) := by kernel_rfl
theorem infoI64 : (Tryz.prog.info? 3).map (fun i => (i.zero, i.size, i.bytes)) = some (some (.int .i64 0), 1, 8) := by kernel_rfl

/-- A destination as it is at first. -/
def Out.zero (n : Nat) : Out := { res := 0, fl := 0, trip := false, unt := 0, turn := 0, cr := List.replicate n 0, sends := 0, way := -1, began := 0 }

/-- k destinations are made, from block B on; fs: what each one's breaker asks, and its credits. -/
def Made (wr : World) (B th n : Nat) (fs : List (Value × Value)) : Prop :=
  ∀ (i : Nat) (f : Value × Value), fs[i]? = some f → ∃ g1 g2 : Nat, f = (Value.func (.func 152) #[] #[.pointer (some ⟨g1, 0, none⟩)], Value.slice (some ⟨g2, 0, none⟩) n n) ∧ B ≤ g1 ∧ B ≤ g2 ∧ Blk wr g1 #[.float .f64 th] 23 ∧ wr.ownsRow 0 3 1 (.slice (some ⟨g2, 0, none⟩) n n) n (List.replicate n (.int .i64 0))
/-- No two have one row of credits. -/
def Apart (fs : List (Value × Value)) : Prop := ∀ (i j : Nat) (f f' : Value × Value), i < j → fs[i]? = some f → fs[j]? = some f' → f.2.ownBlock ≠ f'.2.ownBlock

theorem Made.keep {wr wr' : World} {B th n : Nat} {fs : List (Value × Value)} (h : Made wr B th n fs) (hk : ∀ g cur t, Blk wr g cur t → B ≤ g → Blk wr' g cur t) : Made wr' B th n fs := fun i f hf => by
  obtain ⟨g1, g2, h1, h2, h3, h4, h5⟩ := h i f hf
  refine ⟨g1, g2, h1, h2, h3, hk _ _ _ h4 h2, h5.1, ?_⟩
  rcases h5.2 with ⟨q, _⟩ | ⟨g, cap, cur, q1, q2, q3, q4⟩
  · cases q
  · have e : g2 = g := by simp at q1; exact q1.1
    subst e
    exact Or.inr ⟨g2, cap, cur, q1, q2, hk _ _ _ q3 h3, q4⟩

set_option maxRecDepth 100000 in
set_option maxHeartbeats 2000000 in
theorem newOutlets_any (c : Cfg) (b nb : Nat) (D : DataW Unit) (w : World) (h0 : 1 ≤ c.d) (h1 : c.d ≤ 4) (hown : OM w b nb D) (hsz : Maps.size D ≤ 8) : Calls Tryz.prog 102 #[c.val (some b)] w fun e w' =>
    ∃ g fs, e = .returned (.slice (some ⟨g, 0, none⟩) c.d.toNat c.d.toNat) ∧ w.heap.size ≤ g ∧ fs.length = c.d.toNat ∧ w'.ownsRow w.heap.size 149 10 (.slice (some ⟨g, 0, none⟩) c.d.toNat c.d.toNat) c.d.toNat (fs.flatMap fun f => (Out.zero (Maps.size D)).cells f.1 f.2) ∧
      Made w' (g + 1) c.th (Maps.size D) fs ∧ Apart fs ∧ Below w.heap.size w w' := by
  obtain ⟨i0, hi, hz0, hz1, hz2⟩ := info_parts infoOutlet
  obtain ⟨d, hd⟩ : ∃ d : Nat, c.d = d := ⟨c.d.toNat, by omega⟩
  have hdt : c.d.toNat = d := by omega
  have hd4 : d ≤ 4 := by omega
  rw [hdt]
  have HO := hide hown
  clear hown hdt
  go_enter Tryz.func102, Tryz.ntmps102
  go_wp2_with (first
    | (at_make; refine wpList_make_full _ rfl _ _ 136 rfl w.heap.size 149 i0 _ 10 Tryz.underlying136 hi hz0 hz1 _ _ _ _ d rfl rfl rfl rfl (by rw [hz2]; omega) (by unfold maxLen; omega) (by simp) ?_; intro w1 hrow hg1; have HR0 := hide hrow; have HG1 := hide hg1; clear hrow hg1)
    | fail)
  have hB1 : Below (w.heap.size + 1) (w.alloc (.cells (c.cells (some b)) 25)) w1 := (Below.refl _ _).grown HG1.out (by simp) (fun j hj => by cases hj)
  have hKc : Blk w1 w.heap.size (c.cells (some b)) 25 := (Blk.new w _ _).below hB1 (by omega)
  have hBw : Below w.heap.size w w1 := ((Below.refl _ _).alloc (Nat.le_refl _) _).trans (hB1.mono (by omega))
  obtain ⟨cur, hblk, hcs⟩ : ∃ cur, Blk w1 (w.heap.size + 1) cur 149 ∧ cur.size = d * 10 := by
    rcases HR0.out.2 with ⟨h, _⟩ | ⟨g, cap, cur, h, _, hb, _, _, hs, _⟩
    · cases h
    · simp at h
      obtain ⟨rfl, rfl⟩ := h
      exact ⟨cur, hb, by simpa using hs⟩
  have HC := hide hKc
  have HB := hide hBw
  have HK := hide hblk
  have Hcs := hide hcs
  have Hd := hide hd
  clear hB1 hKc hBw hblk hcs HR0 HG1 hd
  generalize hN : w.heap.size = N at *
  have HN := hide hN
  clear hN
  obtain ⟨i1, hi1, hy0, hy1, hy2⟩ := info_parts infoI64
  go_loopw [10] (fun i wr => ∃ (k : Nat) (cur : Array Value) (fs : List (Value × Value)), k ≤ d ∧ i = .int .i64 k ∧ fs.length = k ∧ Blk wr (N + 1) cur 149 ∧ cur.size = d * 10 ∧ cur.toList.take (k * 10) = (fs.flatMap fun f => (Out.zero (Maps.size D)).cells f.1 f.2) ∧
      Made wr (N + 1 + 1) c.th (Maps.size D) fs ∧ Apart fs ∧ Blk wr N (c.cells (some b)) 25 ∧ Below N w wr) (fun i _ => d - (intOf i).toNat)
  case atStart => exact ⟨0, cur, [], Nat.zero_le _, rfl, rfl, HK.out, Hcs.out, by simp, fun i f hf => by simp at hf, fun i j f f' _ hf => by simp at hf, HC.out, HB.out⟩
  case round =>
    obtain ⟨k, cur', fs, hk, rfl, hfl, hblk, hcs', hft, hmade, hap, hcb, hnx⟩ := hrel
    have Hblk := hide hblk
    have Hcs' := hide hcs'
    have Hft := hide hft
    have Hm := hide hmade
    have Hap := hide hap
    have Hcb := hide hcb
    have Hnx := hide hnx
    have hNl : N + 1 < wr.heap.size := hblk.lt
    obtain ⟨e0, e1, e2, e3, e4, e5, e6, e7, e8, e9, e10⟩ : wr.cell? ⟨N, 0, none⟩ = some (.int .i64 c.d) ∧ wr.cell? ⟨N, 1, none⟩ = some (.map (some b)) ∧ wr.cell? ⟨N, 2, none⟩ = some (.int .i64 c.q) ∧ wr.cell? ⟨N, 3, none⟩ = some (.int .i64 c.at') ∧ wr.cell? ⟨N, 4, none⟩ = some (.int .i64 c.ba) ∧ wr.cell? ⟨N, 5, none⟩ = some (.int .i64 c.ca) ∧ wr.cell? ⟨N, 6, none⟩ = some (.int .i64 c.ti) ∧ wr.cell? ⟨N, 7, none⟩ = some (.int .i64 c.wi) ∧ wr.cell? ⟨N, 8, none⟩ = some (.int .i64 c.le) ∧ wr.cell? ⟨N, 9, none⟩ = some (.float .f64 c.th) ∧ wr.cell? ⟨N, 10, none⟩ = some (.int .i64 c.op) := ⟨hcb.cell 0, hcb.cell 1, hcb.cell 2, hcb.cell 3, hcb.cell 4, hcb.cell 5, hcb.cell 6, hcb.cell 7, hcb.cell 8, hcb.cell 9, hcb.cell 10⟩
    have hmk : ∀ W : World, (Instr.makeSlice 51 (.int .i64 (Maps.size D : Int)) (.int .i64 (Maps.size D : Int))).run Tryz.prog W = .ok (.slice (some ⟨W.heap.size, 0, none⟩) (Maps.size D) (Maps.size D)) (W.alloc (.cells (madeCells (Value.int .i64 0).cells (Maps.size D)) 3)) := fun W => by
      have := run_make (P := Tryz.prog) W 51 3 i1 (.int .i64 0) Tryz.underlying51 hi1 hy0 .i64 .i64 (Maps.size D) (Maps.size D) (by omega) (by omega) (by rw [hy2]; omega) (by omega)
      rw [hy1] at this
      simpa using this
    clear hblk hcs' hft hmade hap hcb hnx
    by_cases hlt : k < d
    · have hltI : (k : Int) < (d : Int) := by omega
      obtain ⟨es, clock, hes, hes2⟩ := om_below HO.out Hnx.out (by rw [← HN.out]; exact HO.out.lt)
      have hlen : ∀ (W : World), W.heap[b]? = some (.map es clock) → ∀ ty, (Builtin.len_ #[22] ty #[.map (some b)]).run Tryz.prog W = .ok (.int .i64 (Maps.size D)) W := fun W hW ty => World.ownsMap.len (n := nb) (R := plainElem Tryz.prog 3) ⟨es, clock, hW, hes2⟩ Tryz.underlying22 ty
      have hl0 := hlen wr.drew hes
      have hl1 := fun o => hlen (wr.alloc o).drew ((Below.heap_alloc _ _ _ (Array.getElem?_eq_some_iff.1 hes).1).trans hes)
      have Hes := hide hes
      have Hlen := hide hlen
      clear hes2 hes hlen
      have hNl0 : N < wr.heap.size := by omega
      go_wp2_with fail
      go_region_with
        (first
          | (go_at_call 128; refine (newBreaker_any c (some b) _).mono ?_; rintro e w2 ⟨g1, rfl, hb2, hg1, hq1⟩; have hc2 := fun o => hb2.cell (p := ⟨N, o, none⟩) hNl0; have hl2 := Hlen.out w2 ((hb2.block b (Array.getElem?_eq_some_iff.1 Hes.out).1).trans Hes.out); have hk2 : Blk w2 (N + 1) cur' 149 := Blk.below (w := wr.drew) Hblk.out hb2 hNl; have hfz := fun o => hk2.frozen o; have z0 : w2.cell? ⟨N + 1, k * 10, none⟩ = some (cur'[k * 10]'(by have := Hcs'.out; omega)) := (hk2.cell _).trans (Array.getElem?_eq_getElem _); have z1 : w2.cell? ⟨N + 1, k * 10 + 1, none⟩ = some (cur'[k * 10 + 1]'(by have := Hcs'.out; omega)) := (hk2.cell _).trans (Array.getElem?_eq_getElem _); have z2 : w2.cell? ⟨N + 1, k * 10 + 2, none⟩ = some (cur'[k * 10 + 2]'(by have := Hcs'.out; omega)) := (hk2.cell _).trans (Array.getElem?_eq_getElem _); have z3 : w2.cell? ⟨N + 1, k * 10 + 3, none⟩ = some (cur'[k * 10 + 3]'(by have := Hcs'.out; omega)) := (hk2.cell _).trans (Array.getElem?_eq_getElem _); have z4 : w2.cell? ⟨N + 1, k * 10 + 4, none⟩ = some (cur'[k * 10 + 4]'(by have := Hcs'.out; omega)) := (hk2.cell _).trans (Array.getElem?_eq_getElem _); have z5 : w2.cell? ⟨N + 1, k * 10 + 5, none⟩ = some (cur'[k * 10 + 5]'(by have := Hcs'.out; omega)) := (hk2.cell _).trans (Array.getElem?_eq_getElem _); have z6 : w2.cell? ⟨N + 1, k * 10 + 6, none⟩ = some (cur'[k * 10 + 6]'(by have := Hcs'.out; omega)) := (hk2.cell _).trans (Array.getElem?_eq_getElem _); have z7 : w2.cell? ⟨N + 1, k * 10 + 7, none⟩ = some (cur'[k * 10 + 7]'(by have := Hcs'.out; omega)) := (hk2.cell _).trans (Array.getElem?_eq_getElem _); have z8 : w2.cell? ⟨N + 1, k * 10 + 8, none⟩ = some (cur'[k * 10 + 8]'(by have := Hcs'.out; omega)) := (hk2.cell _).trans (Array.getElem?_eq_getElem _); have z9 : w2.cell? ⟨N + 1, k * 10 + 9, none⟩ = some (cur'[k * 10 + 9]'(by have := Hcs'.out; omega)) := (hk2.cell _).trans (Array.getElem?_eq_getElem _); have Hb2 := hide hb2; have Hg1 := hide hg1; have Hq1 := hide hq1; have Hk2 := hide hk2; have hNl2 := hk2.lt; clear hb2 hg1 hq1 hk2))
      all_goals
        go_wp2_with fail
        go_roundw
        case rel =>
          generalize hX : (World.setCell (World.setCell (World.setCell (World.setCell (World.setCell (World.setCell (World.setCell (World.setCell (World.setCell (World.setCell w2 _ _) _ _) _ _) _ _) _ _) _ _) _ _) _ _) _ _) _ _) = X
          have hX' : w2.setCells (N + 1) (k * 10) ((Out.zero (Maps.size D)).cells (.func (.func 152) #[] #[.pointer (some ⟨g1, 0, none⟩)]) (.slice (some ⟨w2.heap.size, 0, none⟩) (Maps.size D) (Maps.size D))) = X := hX
          clear hX
          subst hX'
          have hkX := Blk.setCells ((Out.zero (Maps.size D)).cells (.func (.func 152) #[] #[.pointer (some ⟨g1, 0, none⟩)]) (.slice (some ⟨w2.heap.size, 0, none⟩) (Maps.size D) (Maps.size D))) (k * 10) Hk2.out
          have hzX : (w2.setCells (N + 1) (k * 10) ((Out.zero (Maps.size D)).cells (.func (.func 152) #[] #[.pointer (some ⟨g1, 0, none⟩)]) (.slice (some ⟨w2.heap.size, 0, none⟩) (Maps.size D) (Maps.size D)))).heap.size = w2.heap.size := size_setCells _ _
          have hoth : ∀ g cur t, Blk wr g cur t → g ≠ N + 1 → Blk (w2.setCells (N + 1) (k * 10) ((Out.zero (Maps.size D)).cells (.func (.func 152) #[] #[.pointer (some ⟨g1, 0, none⟩)]) (.slice (some ⟨w2.heap.size, 0, none⟩) (Maps.size D) (Maps.size D)))) g cur t := fun g cur t hb hne => Blk.setCellsOther hne _ _ (Blk.below (w := wr.drew) hb Hb2.out hb.lt)
          have hw2 : wr.heap.size ≤ w2.heap.size := Hb2.out.size
          refine ⟨k + 1, _, fs ++ [(Value.func (.func 152) #[] #[.pointer (some ⟨g1, 0, none⟩)], Value.slice (some ⟨w2.heap.size, 0, none⟩) (Maps.size D) (Maps.size D))], by omega, by go_num, by simp [hfl], hkX.alloc _, by rw [splice_size]; exact Hcs'.out, ?_, ?_, ?_, (hoth _ _ _ Hcb.out (by omega)).alloc _, ?_⟩
          · have := splice_take (l := (Out.zero (Maps.size D)).cells (.func (.func 152) #[] #[.pointer (some ⟨g1, 0, none⟩)]) (.slice (some ⟨w2.heap.size, 0, none⟩) (Maps.size D) (Maps.size D))) (cs := cur') (o := k * 10) (by rw [Hcs'.out]; simp [Out.cells]; omega)
            rw [Hft.out] at this
            rw [Nat.succ_mul]
            rw [List.flatMap_append]
            simpa [Out.cells] using this
          · intro i f hf
            by_cases hif : i < fs.length
            · rw [List.getElem?_append_left hif] at hf
              exact (Hm.out.keep (fun g cur t hb hg => (hoth g cur t hb (by omega)).alloc _)) i f hf
            · rw [List.getElem?_append_right (by omega)] at hf
              have e : i - fs.length = 0 := by
                have := (List.getElem?_eq_some_iff.1 hf).1
                simp at this; omega
              rw [e] at hf
              simp at hf
              have hg1' : wr.heap.size ≤ g1 := Hg1.out
              refine ⟨g1, w2.heap.size, hf.symm, by omega, by omega, (Blk.setCellsOther (by omega) _ _ Hq1.out).alloc _, ?_⟩
              have := Blk.made (V := w2.setCells (N + 1) (k * 10) ((Out.zero (Maps.size D)).cells (.func (.func 152) #[] #[.pointer (some ⟨g1, 0, none⟩)]) (.slice (some ⟨w2.heap.size, 0, none⟩) (Maps.size D) (Maps.size D)))) hzX (madeCells #[.int .i64 0] (Maps.size D)) 3
              exact ⟨by simp, Or.inr ⟨_, _, _, rfl, Nat.zero_le _, this, Nat.le_refl _, by unfold maxLen; omega, by simp [size_madeCells], by simp [toList_madeCells_one]⟩⟩
          · intro i j f f' hij hf hf'
            have hj : j < fs.length + 1 := by
              have := (List.getElem?_eq_some_iff.1 hf').1
              simpa using this
            rw [List.getElem?_append_left (by omega)] at hf
            by_cases hjf : j < fs.length
            · rw [List.getElem?_append_left hjf] at hf'
              exact Hap.out i j f f' hij hf hf'
            · rw [List.getElem?_append_right (by omega), show j - fs.length = 0 by omega] at hf'
              simp at hf'
              obtain ⟨a1, a2, rfl, _, _, _, a6⟩ := Hm.out i f hf
              have hlt2 : a2 < wr.heap.size := (a6.lt a2 (by simp [Value.ownBlock])).2
              subst hf'
              simp [Value.ownBlock]
              omega
          · have hb3 : Below N w w2 := Hnx.out.drew.trans (Hb2.out.mono (by show N ≤ wr.heap.size; omega))
            exact (below_setCells (by omega) _ _ hb3).alloc (by rw [hzX]; omega) _
        case measure => simp [intOf]; omega
    · have e : k = d := by omega
      subst e
      go_wp2_with fail
      go_ret
      refine ⟨N + 1, fs, rfl, by rw [HN.out]; omega, hfl, ?_, Hm.out, Hap.out, by rw [HN.out]; exact Hnx.out⟩
      refine ⟨by rw [← Hft.out]; simp [Hcs'.out], Or.inr ⟨_, _, cur', rfl, by rw [HN.out]; omega, Hblk.out, Nat.le_refl _, by unfold maxLen; omega, Hcs'.out, Hft.out⟩⟩
end Go.Proofs.YtojpjaifhjigfaaGreatDoor

/- newAgent: a new agent, in new memory. -/
namespace Go.Proofs.YtojpjaifhjigfaaGreatDoor
open Go.RowKit Go.Maps

set_option maxRecDepth 100000 in
set_option maxHeartbeats 400000 in
theorem clone_some (b : Nat) (es : Array MapEntry) (clock : Nat) (w : World) (hb : w.heap[b]? = some (.map es clock)) :
    Calls Tryz.prog 98 #[.map (some b)] w fun e w' => e = .returned (.map (some w.heap.size)) ∧ w' = w.alloc (.map es clock) := by
  have hq := fun w => run_eql_map_nil (P := Tryz.prog) w 22 _ _ (some b) Tryz.underlying22
  go_enter Tryz.func98, Tryz.ntmps98
  go_wp2
  rw [run_callFunc_extern Tryz.func124 (by kernel_rfl) (by kernel_rfl) (by kernel_rfl) (e := Extern.MapsClone.clone) (by kernel_rfl), run_maps_clone_sl w 22 hb]
  simp only [Result.andThen]
  rw [Oper.upon_value]
  go_wp2
  rw [run_typeAssert_map_sl _ 22 20 _ _ _ Tryz.underlying22]
  simp only [Result.andThen]
  rw [Oper.upon_value]
  go_wp2
  go_ret
  exact ⟨rfl, rfl⟩

theorem below_alloc_size {B : Nat} {w w' : World} {o : Obj} (h : Below B (w.alloc o) w') : w.heap.size + 1 ≤ w'.heap.size := by
  have := h.size
  simpa using this

theorem ownsRow_shape {w : World} {base : Nat} {e : TypeId} {size : Nat} {v : Value} {n : Nat} {xs : List Value} (h : w.ownsRow base e size v n xs) : ∃ a k, v = .slice a n k := by
  rcases h.2 with ⟨rfl, rfl⟩ | ⟨g, cap, cur, rfl, _⟩
  · exact ⟨_, _, rfl⟩
  · exact ⟨_, _, rfl⟩

/-- The parts of a new agent. -/
structure NewAg (w w' : World) (c : Cfg) (D : DataW Unit) (g bq bm cn go : Nat) (nv : Value) (ns : List (List UInt8)) (fs : List (Value × Value)) : Prop where
  blk : Blk w' g (agCells bq bm (.slice none 0 0) (.slice none 0 0) nv (.slice none 0 0) (.slice (some ⟨go, 0, none⟩) c.d.toNat c.d.toNat) (Ag.new c D ns)) 138
  bg : w.heap.size ≤ g
  qm : w'.heap[bq]? = some (.map #[] 0)
  bbq : w.heap.size ≤ bq
  cm : OM w' bm cn D
  bbm : w.heap.size ≤ bm
  ne : bq ≠ bm
  nm : w'.ownsRow w.heap.size 9 1 nv ns.length (ns.map encStr)
  pm : ns.Perm (strKeys D)
  so : ns.Pairwise (fun x y => x ≤ y)
  ol : w'.ownsRow w.heap.size 149 10 (.slice (some ⟨go, 0, none⟩) c.d.toNat c.d.toNat) c.d.toNat (fs.flatMap fun f => (Out.zero (Maps.size D)).cells f.1 f.2)
  bo : w.heap.size ≤ go
  fl : fs.length = c.d.toNat
  md : Made w' (go + 1) c.th (Maps.size D) fs
  ap : Apart fs
  bw : Below w.heap.size w w'

set_option maxRecDepth 100000 in
set_option maxHeartbeats 2000000 in
theorem newAgent_any (c : Cfg) (b nb : Nat) (D : DataW Unit) (w : World) (h0 : 1 ≤ c.d) (h1 : c.d ≤ 4) (hown : OM w b nb D) (hsz : Maps.size D ≤ 8) : Calls Tryz.prog 63 #[c.val (some b)] w fun e w' =>
    ∃ g bq bm cn go nv ns fs, e = .returned (.pointer (some ⟨g, 0, none⟩)) ∧ NewAg w w' c D g bq bm cn go nv ns fs := by
  have HO := hide hown
  have hsz' : Maps.size D ≤ 120 := by omega
  clear hown
  go_enter Tryz.func63, Tryz.ntmps63
  go_wp2_with fail
  obtain ⟨es, clock, hb0, hb1⟩ := HO.out.alloc (.cells (c.cells (some b)) 25)
  refine (clone_some b es clock _ hb0).mono ?_
  rintro e w' ⟨rfl, rfl⟩
  have hbl := HO.out.lt
  clear hb0
  go_wp2_with fail
  generalize hW : World.alloc (World.alloc w _) (Obj.map es clock) = W
  have hB : Below w.heap.size w W := by rw [← hW]; exact ((Below.refl _ _).alloc (Nat.le_refl _) _).alloc (by simp) _
  have hK : Blk W w.heap.size (c.cells (some (w.heap.size + 1))) 25 := by rw [← hW]; exact (Blk.new w _ _).alloc _
  have hM : OM W (w.heap.size + 1) nb D := by
    rw [← hW]
    exact ⟨es, clock, obj_new (by simp) _, hb1⟩
  have hlt : w.heap.size < W.heap.size := hK.lt
  have hltm : w.heap.size + 1 < W.heap.size := hM.lt
  have e0 := hK.cell 0
  have e1 := hK.cell 1
  have e2 := hK.cell 2
  have e3 := hK.cell 3
  have e4 := hK.cell 4
  have e5 := hK.cell 5
  have e6 := hK.cell 6
  have e7 := hK.cell 7
  have e8 := hK.cell 8
  have e9 := hK.cell 9
  have e10 := hK.cell 10
  simp at e0 e1 e2 e3 e4 e5 e6 e7 e8 e9 e10
  have HB := hide hB
  have HK := hide hK
  have HM := hide hM
  clear hB hK hW hM hb1
  go_region_held3 (fun w' => w'.cell? ⟨w.heap.size, 0, none⟩ = some (.int .i64 c.d) ∧ w'.cell? ⟨w.heap.size, 1, none⟩ = some (.map (some (w.heap.size + 1))) ∧ w'.cell? ⟨w.heap.size, 2, none⟩ = some (.int .i64 c.q) ∧ w'.cell? ⟨w.heap.size, 3, none⟩ = some (.int .i64 c.at') ∧ w'.cell? ⟨w.heap.size, 4, none⟩ = some (.int .i64 c.ba) ∧ w'.cell? ⟨w.heap.size, 5, none⟩ = some (.int .i64 c.ca) ∧ w'.cell? ⟨w.heap.size, 6, none⟩ = some (.int .i64 c.ti) ∧ w'.cell? ⟨w.heap.size, 7, none⟩ = some (.int .i64 c.wi) ∧ w'.cell? ⟨w.heap.size, 8, none⟩ = some (.int .i64 c.le) ∧ w'.cell? ⟨w.heap.size, 9, none⟩ = some (.float .f64 c.th) ∧ w'.cell? ⟨w.heap.size, 10, none⟩ = some (.int .i64 c.op)) (go_keep)
    (first
      | (go_at_call 99; refine (newLasting_any _).mono ?_; rintro e w1 ⟨bq, rfl, hb1, hq1, hq2⟩; have hc1 := fun o => hb1.cell (p := ⟨w.heap.size, o, none⟩) hlt; have hz1 : W.heap.size ≤ w1.heap.size := hb1.size; have hlt1 : w.heap.size < w1.heap.size := Nat.lt_of_lt_of_le hlt hz1; have Hb1 := hide hb1; have Hq1 := hide hq1; have Hq2 := hide hq2; clear hb1 hq1 hq2)
      | (go_at_call 101; refine (keys_any _ _).mono ?_; rintro e w' ⟨rfl, rfl⟩)
      | (go_at_call 100; refine (sorted_any (w.heap.size + 1) nb D w1 (om_below (w := W.drew) HM.out Hb1.out hltm) hsz').mono ?_; rintro e w2 ⟨nv, ss, rfl, hp2, hr2, hb2⟩; obtain ⟨na, nk, rfl⟩ := ownsRow_shape hr2; have hc2 := fun o => (hb2.cell (p := ⟨w.heap.size, o, none⟩) (Nat.lt_succ_of_lt hlt1)).trans (World.cell?_of_block (Below.heap_alloc _ _ _ hlt1)); have hz2 := below_alloc_size hb2; have Hb2 := hide hb2; have Hp2 := hide hp2; have Hr2 := hide hr2; clear hb2 hp2 hr2)
      | (go_at_call 102; refine (newOutlets_any c (w.heap.size + 1) nb D w2 h0 h1 (om_below ((om_below (w := W.drew) HM.out Hb1.out hltm).alloc _) Hb2.out (Nat.lt_succ_of_lt (Nat.lt_of_lt_of_le hltm hz1))) hsz).mono ?_; rintro e w3 ⟨go, fs, rfl, ho1, ho2, ho3, ho4, ho5, hb3⟩; have hc3 := fun o => hb3.cell (p := ⟨w.heap.size, o, none⟩) (Nat.lt_of_lt_of_le hlt1 (Nat.le_of_succ_le hz2)); have Ho1 := hide ho1; have Ho2 := hide ho2; have Ho3 := hide ho3; have Ho4 := hide ho4; have Ho5 := hide ho5; have Hb3 := hide hb3; clear ho1 ho2 ho3 ho4 ho5 hb3))
  all_goals
    go_wp2_with fail
    go_ret
    have hbW3 : Below w.heap.size w w3 := ((HB.out.drew.trans (Hb1.out.mono (Nat.le_of_lt hlt))).alloc (Nat.le_of_lt hlt1) _).trans ((Hb2.out.mono (by omega)).trans (Hb3.out.mono (by omega)))
    have hb13 : Below w1.heap.size w1 w3 := ((Below.refl _ _).alloc (Nat.le_refl _) _).trans ((Hb2.out.mono (by omega)).trans (Hb3.out.mono (by omega)))
    have hq1 : W.heap.size ≤ bq := Hq1.out
    have hbq : bq < w1.heap.size := (Array.getElem?_eq_some_iff.1 Hq2.out).1
    have hW1 : W.heap.size ≤ w1.heap.size := hz1
    have ho1 : w2.heap.size ≤ go := Ho1.out
    have hsrt : (ss.mergeSort (fun x y => decide (x ≤ y))).Perm (strKeys D) := (List.mergeSort_perm ss _).trans Hp2.out
    refine ⟨w3.heap.size, bq, w.heap.size + 1, nb, go, .slice na ss.length nk, ss.mergeSort (fun x y => decide (x ≤ y)), fs, rfl, { blk := ?_, bg := hbW3.size, qm := ?_, bbq := by omega, cm := ?_, bbm := by omega, ne := by omega, nm := ?_, pm := hsrt, so := ?_, ol := ?_, bo := by omega, fl := Ho2.out, md := ?_, ap := Ho5.out, bw := hbW3.alloc hbW3.size _ }⟩
    · exact Blk.made rfl _ _
    · rw [Below.heap_alloc _ _ _ (Nat.lt_of_lt_of_le hbq hb13.size), hb13.block bq hbq]
      exact Hq2.out
    · exact (om_below (om_below (w := W.drew) HM.out Hb1.out hltm) hb13 (Nat.lt_of_lt_of_le hltm hW1)).alloc _
    · rw [show (ss.mergeSort (fun x y => decide (x ≤ y))).length = ss.length from List.length_mergeSort _]
      refine ⟨by simp, ?_⟩
      rcases Hr2.out.2 with h | ⟨g, cap, cur, q1, q2, q3, q4⟩
      · exact Or.inl h
      · refine Or.inr ⟨g, cap, cur, q1, by omega, ?_, q4⟩
        have hg : g < w2.heap.size := (Array.getElem?_eq_some_iff.1 q3).1
        rw [Below.heap_alloc _ _ _ (Nat.lt_of_lt_of_le hg Hb3.out.size), Hb3.out.block g hg]
        exact q3
    · have := List.pairwise_mergeSort (le := fun x y : List UInt8 => decide (x ≤ y)) (fun a b c h1 h2 => by simp at *; exact List.le_trans h1 h2) (fun a b => by simp; exact List.le_total a b) ss
      exact this.imp (fun h => by simpa using h)
    · have h3 := Ho3.out.alloc (Obj.cells (agCells bq (w.heap.size + 1) (.slice none 0 0) (.slice none 0 0) (.slice na ss.length nk) (.slice none 0 0) (.slice (some ⟨go, 0, none⟩) c.d.toNat c.d.toNat) (Ag.new c D (ss.mergeSort (fun x y => decide (x ≤ y))))) 138)
      refine ⟨h3.1, ?_⟩
      rcases h3.2 with ⟨h, _⟩ | ⟨g, cap, cur, q1, q2, q3⟩
      · cases h
      · exact Or.inr ⟨g, cap, cur, q1, by omega, q3⟩
    · exact Ho4.out.keep (fun g cur t hb _ => hb.alloc _)
end Go.Proofs.YtojpjaifhjigfaaGreatDoor

/- What a call tells the log: appendEvent, written, for a batch that is taken. -/
namespace Go.Proofs.YtojpjaifhjigfaaGreatDoor
open Go.RowKit Go.Maps

/-- A row of bytes. -/
def byts (l : List UInt8) : List Value := l.map fun b => Value.int .u8 b.toNat
theorem byts_append (a b : List UInt8) : byts (a ++ b) = byts a ++ byts b := by simp [byts]
theorem infoByte : (Tryz.prog.info? 5).map (fun i => (i.zero, i.size, i.bytes)) = some (some (.int .u8 0), 1, 1) := by kernel_rfl

/-- append(dst, s...): a text's bytes behind a row of bytes that is the call's own. -/
theorem run_append_text (w : World) (ty : TypeId) (g n cap : Nat) (xs : List UInt8) (s : List UInt8) (hown : w.ownsRow 0 5 1 (.slice (some ⟨g, 0, none⟩) n cap) n (byts xs)) (hn : n + s.length ≤ 1000000) :
    ∃ g' cap' w', (Builtin.append_ #[156, 9] ty #[.slice (some ⟨g, 0, none⟩) n cap, encStr s]).run Tryz.prog w = .ok (.slice (some ⟨g', 0, none⟩) (n + s.length) cap') w' ∧
      w'.ownsRow 0 5 1 (.slice (some ⟨g', 0, none⟩) (n + s.length) cap') (n + s.length) (byts (xs ++ s)) ∧ w.grownBy w' (some g) ∧ (g' = g ∨ g' = w.heap.size) := by
  obtain ⟨i, hi, hz0, hz1, hz2⟩ := info_parts infoByte
  have hsz : (ByteArray.mk s.toArray).size = s.length := by simp [ByteArray.size]
  have hbc : byteCells (ByteArray.mk s.toArray) = byts s := by simp [byteCells, byts]
  have hS : Src Tryz.prog i.size 9 (encStr s) s.length (byts s) w := by
    have := Src.ofString (P := Tryz.prog) w Tryz.underlying9 (ByteArray.mk s.toArray)
    rw [hsz, hbc] at this
    rw [hz1]
    exact this
  have hown' := hown
  rcases hown.2 with ⟨e, _⟩ | ⟨g0, cap0, cur, q1, _, q3, q4, q5, q6, q7⟩
  · cases e
  · simp only [Value.slice.injEq, Option.some.injEq, Addr.mk.injEq, and_true, true_and] at q1
    obtain ⟨rfl, rfl⟩ := q1
    have hB : Blk w g cur 5 := q3
    simp only [Nat.mul_one] at q6 q7
    by_cases hroom : n + s.length ≤ cap
    · have hr := run_append_room_src (P := Tryz.prog) w 156 9 ty 5 i Tryz.underlying156 hi g 0 n cap (encStr s) s.length (byts s) hS hroom
        (fun j hj => by rw [hz1, hB.cell, Array.getElem?_eq_getElem (by simp [byts] at hj; omega)]; rfl) (fun j hj => hB.frozen _)
      rw [hz1, Nat.mul_one, Nat.zero_add] at hr
      refine ⟨g, cap, _, hr, ⟨by simp [byts]; have := hown'.1; simp [byts] at this; omega, Or.inr ⟨g, cap, _, rfl, Nat.zero_le _, hB.setCells (byts s) n, hroom, q5, ?_, ?_⟩⟩, ⟨?_, ?_, ?_, ?_, ?_⟩, Or.inl rfl⟩
      · rw [splice_size]; omega
      · have := splice_take (l := byts s) (cs := cur) (o := n) (by simp [byts]; omega)
        rw [q7, ← byts_append] at this
        simpa [byts] using this
      · exact (Step.setCells (p := fun _ => True) (fun _ => none) trivial (byts s) w n).os
      · exact (Step.setCells (p := fun _ => True) (fun _ => none) trivial (byts s) w n).tape
      · exact (Step.setCells (p := fun _ => True) (fun _ => none) trivial (byts s) w n).output
      · exact (Step.setCells (p := fun _ => True) (fun _ => none) trivial (byts s) w n).size
      · intro k hk hne
        exact heap_setCells _ _ (fun e => hne (by rw [e]))
    · have hold : (Builtin.firstCells i.size n (.slice (some ⟨g, 0, none⟩) n cap)).run Tryz.prog w.drew = .ok (byts xs).toArray w.drew := by
        rw [hz1]
        exact run_firstCells_some w.drew 1 n ⟨g, 0, none⟩ n cap (byts xs) (by rw [hown'.1]) (fun j u hu => hown'.cells (by simp [Value.ownBlock]) j u hu)
      have hr := run_append_grow_src (P := Tryz.prog) w 156 9 ty 5 i (.int .u8 0) Tryz.underlying156 hi hz0 (some ⟨g, 0, none⟩) n cap (byts xs) hold (encStr s) s.length (byts s) hS (by omega) (by omega)
        (by have := nextslicecap_le (need := n + s.length) (old := cap) (by omega); rw [hz2]; omega)
      have hge := grownCap_ge w (n + s.length) cap 5
      have hcm : grownCap w (n + s.length) cap 5 ≤ maxLen := grownCap_le_maxLen w (n + s.length) cap 5 (by unfold maxLen; omega)
      have hxl : (byts xs).length = n := by have := hown'.1; omega
      refine ⟨_, _, _, hr, ⟨?_, Or.inr ⟨_, _, _, rfl, Nat.zero_le _, heap_alloc_new w.drew _, hge, hcm, ?_, ?_⟩⟩, ⟨rfl, rfl, rfl, by simp, fun k hk _ => Below.heap_alloc w.drew _ k hk⟩, Or.inr rfl⟩
      · rw [byts_append, List.length_append, hxl]; simp [byts]
      · simp only [Array.size_append, List.size_toArray, size_zeroCells, List.length_append, hxl]
        simp [byts, Value.cells]
        omega
      · rw [Array.toList_append, byts_append]
        have : n + s.length = (byts xs ++ byts s).length := by rw [List.length_append, hxl]; simp [byts]
        rw [Nat.mul_one, this]
        exact List.take_left

/-- At the operation. -/
theorem wpList_append_text (w : World) {ops : Array Oper} {rest : List Oper} {o : Oper} {a : Act} {Q : Exit → Act → World → Prop} (hgd : o.guard = none) (s x : Operand)
    (ho : o.op = .call { callee := .builtin .append, args := #[s, x], argTypes := #[156, 9] }) (g n cap : Nat) (xs t : List UInt8) (hs : a.eval s = .slice (some ⟨g, 0, none⟩) n cap) (hx : a.eval x = encStr t)
    (hown : w.ownsRow 0 5 1 (.slice (some ⟨g, 0, none⟩) n cap) n (byts xs)) (hn : n + t.length ≤ 1000000)
    (h : ∀ g' cap' w', w'.ownsRow 0 5 1 (.slice (some ⟨g', 0, none⟩) (n + t.length) cap') (n + t.length) (byts (xs ++ t)) → w.grownBy w' (some g) → (g' = g ∨ g' = w.heap.size) → wpList Tryz.prog ops Q rest (a.put o.dst (.slice (some ⟨g', 0, none⟩) (n + t.length) cap')) w') : wpList Tryz.prog ops Q (o :: rest) a w := by
  refine wpList_plain hgd fun _ hK => ?_
  obtain ⟨g', cap', w', hr, h1, h2, h3⟩ := run_append_text w o.type g n cap xs t hown hn
  unfold Oper.wp execOp
  simp only [ho, resolve, invoke, builtin, Sem.run_bind, Sem.run_pure, Result.andThen_ok, List.map_toArray, List.map_cons, List.map_nil, hs, hx, hr]
  exact hK _ _ (h g' cap' w' h1 h2 h3)

/-- The bytes that tell of a batch that was taken. -/
def evParts (b : Bat) : List (List UInt8) := [b.ten, b.id, b.body]
def part (s : List UInt8) : List UInt8 := UInt8.ofNat s.length :: s
def evBytes (b : Bat) : List UInt8 := [0, UInt8.ofNat b.dst.toNat] ++ (evParts b).flatMap part
def evVal (b : Bat) : Value := .agg #[.int .i64 0, .int .i64 b.dst, encStr b.ten, encStr b.id, encStr b.body, .int .i64 0, .int .i64 0]

theorem u8_of {n : Nat} (h : n < 256) : ((UInt8.ofNat n).toNat : Int) = n := by
  rw [UInt8.toNat_ofNat']
  omega
theorem row_ne {w : World} {g gs n cap : Nat} {xs : List Value} {cur : Array Value} (h : w.ownsRow 0 5 1 (.slice (some ⟨g, 0, none⟩) n cap) n xs) (hb : Blk w gs cur 9) : gs ≠ g := fun e => by
  rcases h.2 with ⟨e', _⟩ | ⟨g0, cap0, cu, q1, _, q3, _⟩
  · cases e'
  · simp only [Value.slice.injEq, Option.some.injEq, Addr.mk.injEq, and_true, true_and] at q1
    obtain ⟨rfl, rfl⟩ := q1
    unfold Blk at hb
    rw [e, q3] at hb
    simp only [Option.some.injEq, Obj.cells.injEq] at hb
    exact absurd hb.2.1 (by decide)

theorem byts_snoc {w : World} {v : Value} {n m : Nat} {ys : List UInt8} (h : w.ownsRow 0 5 1 v n (byts ys ++ [.int .u8 (m : Int)])) (hm : m < 256) : w.ownsRow 0 5 1 v n (byts (ys ++ [UInt8.ofNat m])) := by
  rw [byts_append]
  have e : byts [UInt8.ofNat m] = [.int .u8 (m : Int)] := by simp only [byts, List.map_cons, List.map_nil, u8_of hm]
  rw [e]
  exact h

set_option maxRecDepth 100000 in
set_option maxHeartbeats 2000000 in
theorem appendEvent_take (v : Value) (n : Nat) (xs : List UInt8) (b : Bat) (w : World) (hown : w.ownsRow 0 5 1 v n (byts xs)) (hn : n ≤ 900000) (hd : 0 ≤ b.dst ∧ b.dst < 4) (ht : b.ten.length ≤ 16) (hid : b.id.length ≤ 16) (hbo : b.body.length ≤ 63) :
    Calls Tryz.prog 140 #[v, evVal b] w fun e w' => ∃ g cap, e = .returned (.slice (some ⟨g, 0, none⟩) (n + (evBytes b).length) cap) ∧ w'.ownsRow 0 5 1 (.slice (some ⟨g, 0, none⟩) (n + (evBytes b).length) cap) (n + (evBytes b).length) (byts (xs ++ evBytes b)) ∧ w.grownBy w' v.ownBlock ∧ (v.ownBlock = some g ∨ w.heap.size ≤ g) := by
  obtain ⟨i0, hi, hz0, hz1, hz2⟩ := info_parts infoByte
  obtain ⟨va, vk, rfl⟩ := ownsRow_shape hown
  have HO := hide hown
  obtain ⟨d, hdd⟩ : ∃ d : Nat, b.dst = d := ⟨b.dst.toNat, by omega⟩
  have hd4 : d < 4 := by omega
  unfold evVal
  rw [hdd]
  clear hown
  go_enter Tryz.func140, Tryz.ntmps140
  go_wp2_with (first
    | (at_builtin; refine wpList_append_lies _ rfl _ _ 156 rfl 0 5 i0 (.int .u8 0) 1 1 Tryz.underlying156 hi hz0 hz1 hz2 rfl (by decide) _ _ _ rfl ((HO.out.alloc _).alloc _) ⟨w.heap.size + 1, 0, none⟩ 2 2 [.int .u8 0, .int .u8 d] rfl rfl (World.news_of_block (cs := #[.int .u8 0, .int .u8 d]) (t := 5) (fr := (0, 0)) (obj_new (by simp) _)) (by simp [Value.oneCell']) (by decide) (by unfold maxLen; omega) (by omega) (Nat.zero_le _) (w.heap.size + 2) (by simp) ?_; intro g1 cap1 w1 hown1 hg1 hat1 hlt1; have hE : Blk w1 w.heap.size #[.int .i64 0, .int .i64 d, encStr b.ten, encStr b.id, encStr b.body, .int .i64 0, .int .i64 0] 151 := Blk.grown ((Blk.new w _ _).alloc _) hg1 (fun e => absurd (HO.out.lt _ e.symm).2 (by omega)); have k2 : w1.cell? ⟨w.heap.size, 2, none⟩ = some (encStr b.ten) := hE.cell 2; have k3 : w1.cell? ⟨w.heap.size, 3, none⟩ = some (encStr b.id) := hE.cell 3; have k4 : w1.cell? ⟨w.heap.size, 4, none⟩ = some (encStr b.body) := hE.cell 4; have Ho1 := hide hown1; have Hg1 := hide hg1; have Hat1 := hide hat1; clear hE hown1 hg1 hat1)
    | fail)
  have HG1 : Hid (w.grownBy w1 (Value.slice va n vk).ownBlock) := (World.grownBy_alloc w _ _).andThen ((World.grownBy_alloc _ _ _).andThen Hg1.out (fun j hj => Or.inr hj)) (fun j hj => Or.inr hj)
  have HO1 : Hid (w1.ownsRow 0 5 1 (.slice (some ⟨g1, 0, none⟩) (n + 2) cap1) (n + 2) (byts (xs ++ [0, UInt8.ofNat d]))) := by
    have := Ho1.out
    rw [byts_append]
    have e : byts [0, UInt8.ofNat d] = [.int .u8 0, .int .u8 d] := by
      simp only [byts, List.map_cons, List.map_nil, u8_of (show d < 256 by omega)]
      rfl
    rw [e]
    exact this
  have HA1 : Hid ((Value.slice va n vk).ownBlock = some g1 ∨ w.heap.size ≤ g1) := Hat1.out.imp id (fun e => by omega)
  have hz1w : w.heap.size ≤ w1.heap.size := HG1.out.size
  clear Ho1 Hg1 Hat1 k2 k3 k4
  have hlen3 : ∀ k, k ≤ 3 → ((evParts b).take k |>.flatMap part).length ≤ 98 := fun k hk => by
    match k, hk with
    | 0, _ => simp
    | 1, _ => simp [evParts, part]; omega
    | 2, _ => simp [evParts, part]; omega
    | 3, _ => simp [evParts, part]; omega
  go_loopw [0, 6, 43] (fun t _ i wr => ∃ (k g cap : Nat), k ≤ 3 ∧ i = .int .i64 k ∧ t = .slice (some ⟨g, 0, none⟩) (n + 2 + ((evParts b).take k |>.flatMap part).length) cap ∧ wr.ownsRow 0 5 1 (.slice (some ⟨g, 0, none⟩) (n + 2 + ((evParts b).take k |>.flatMap part).length) cap) (n + 2 + ((evParts b).take k |>.flatMap part).length) (byts (xs ++ [0, UInt8.ofNat d] ++ ((evParts b).take k |>.flatMap part))) ∧
      Blk wr w1.heap.size #[encStr b.ten, encStr b.id, encStr b.body] 9 ∧ w.grownBy wr (Value.slice va n vk).ownBlock ∧ ((Value.slice va n vk).ownBlock = some g ∨ w.heap.size ≤ g)) (fun _ _ i _ => 3 - (intOf i).toNat)
  case atStart => exact ⟨0, g1, cap1, by omega, rfl, by simp, by simpa using HO1.out.alloc _, Blk.new _ _ _, HG1.out.andThen (World.grownBy_alloc _ _ none) (fun j hj => by cases hj), HA1.out⟩
  case round =>
    obtain ⟨k, g, cap, hk, rfl, rfl, hown, hst, hgr, hat⟩ := hrel
    have Ho := hide hown
    have Hst := hide hst
    have Hgr := hide hgr
    have Hat := hide hat
    have hL := hlen3 k hk
    generalize hm : ((evParts b).take k |>.flatMap part) = pre at *
    have Hm := hide hm
    clear hown hst hgr hat hm
    by_cases hlt : k < 3
    · have hltI : (k : Int) < 3 := by omega
      obtain ⟨x, hx⟩ : ∃ x, (evParts b)[k]? = some x := ⟨_, List.getElem?_eq_getElem (by simp [evParts]; exact hlt)⟩
      have hxl : x.length ≤ 63 := by
        have : x ∈ evParts b := List.mem_of_getElem? hx
        simp [evParts] at this
        rcases this with rfl | rfl | rfl <;> omega
      have hcx : wr.cell? ⟨w1.heap.size, k, none⟩ = some (encStr x) := by
        rw [Hst.out.cell k]
        match k, hlt, hx with
        | 0, _, hx => simp [evParts] at hx; subst hx; rfl
        | 1, _, hx => simp [evParts] at hx; subst hx; rfl
        | 2, _, hx => simp [evParts] at hx; subst hx; rfl
      have HStep : Hid (((evParts b).take (k + 1) |>.flatMap part) = pre ++ part x) := by
        have h1 : k < (evParts b).length := (List.getElem?_eq_some_iff.1 hx).1
        have h2 : (evParts b)[k] = x := (List.getElem?_eq_some_iff.1 hx).2
        show _ = _
        rw [List.take_succ_eq_append_getElem h1, List.flatMap_append, Hm.out, h2]
        simp
      have hxI : (x.length : Int) < 256 := by omega
      clear hx
      go_wp2_with (first
        | (at_builtin; refine wpList_append_lies _ rfl _ _ 156 rfl 0 5 i0 (.int .u8 0) 1 1 Tryz.underlying156 hi hz0 hz1 hz2 rfl (by decide) (.slice (some ⟨g, 0, none⟩) (n + 2 + pre.length) cap) _ _ rfl (Ho.out.alloc _) ⟨wr.heap.size, 0, none⟩ 1 1 [.int .u8 (x.length : Int)] rfl rfl (World.news_of_block (cs := #[.int .u8 (x.length : Int)]) (t := 5) (fr := (0, 0)) (obj_new rfl _)) (by simp [Value.oneCell']) (by decide) (by unfold maxLen; omega) (by omega) (Nat.zero_le _) (wr.heap.size + 1) (by simp) ?_; intro g2 cap2 w2 hown2 hg2 hat2 hlt2; have hO2 : w2.ownsRow 0 5 1 (.slice (some ⟨g2, 0, none⟩) (n + 2 + pre.length + 1) cap2) (n + 2 + pre.length + 1) (byts (xs ++ [0, UInt8.ofNat d] ++ pre ++ [UInt8.ofNat x.length])) := byts_snoc hown2 (by omega); have Hg2 := hide hg2; have Hat2 := hide hat2; have HO2 := hide hO2; have Hst2 := hide (Blk.grown (Hst.out.alloc _) hg2 (fun e => row_ne Ho.out Hst.out (Option.some.inj e))); clear hown2 hg2 hat2 hO2)
        | (at_builtin; refine wpList_append_text _ rfl _ _ rfl g2 (n + 2 + pre.length + 1) cap2 _ x rfl rfl HO2.out (by omega) ?_; intro g3 cap3 w3 hown3 hg3 hat3; have Ho3 := hide hown3; have Hg3 := hide hg3; have Hat3 := hide hat3; have Hst3 := hide (Hst2.out.grown hg3 (fun e => row_ne HO2.out Hst2.out (Option.some.inj e))); clear hown3 hg3 hat3)
        | fail)
      go_roundw
      case rel =>
        have hgA : w.grownBy w2 (Value.slice va n vk).ownBlock := Hgr.out.andThen ((World.grownBy_alloc wr _ _).trans Hg2.out) (fun j hj => by
          have e : g = j := by simpa [Value.ownBlock] using hj
          subst e
          exact Hat.out.symm.imp id id)
        have ha2 : (Value.slice va n vk).ownBlock = some g2 ∨ w.heap.size ≤ g2 := by
          rcases Hat2.out with e | e
          · have e' : g = g2 := by simpa [Value.ownBlock] using e
            subst e'
            exact Hat.out
          · have := Hgr.out.size
            exact Or.inr (by omega)
        have hgB : w.grownBy w3 (Value.slice va n vk).ownBlock := hgA.andThen Hg3.out (fun j hj => by
          have e : g2 = j := by simpa using hj
          subst e
          exact ha2.symm.imp id id)
        have hpl : (part x).length = x.length + 1 := by simp [part]
        refine ⟨k + 1, g3, cap3, by omega, by go_num, ?_, ?_, Hst3.out, hgB, ?_⟩
        · rw [HStep.out, List.length_append, hpl]
          congr 1
          omega
        · have := Ho3.out
          rw [HStep.out, List.length_append, hpl]
          rw [show n + 2 + pre.length + 1 + x.length = n + 2 + (pre.length + (x.length + 1)) by omega] at this
          simpa [part] using this
        · rcases Hat3.out with rfl | e
          · exact ha2
          · have := hgA.size
            exact Or.inr (by omega)
      case measure => simp [intOf]; omega
    · have e3 : k = 3 := by omega
      subst e3
      have Hpre : Hid (pre = (evParts b).flatMap part) := by rw [← Hm.out]; rfl
      go_wp2_with fail
      go_ret
      have hb2 : evBytes b = [0, UInt8.ofNat d] ++ pre := by
        unfold evBytes
        rw [Hpre.out, hdd]
        simp
      have hbl : (evBytes b).length = 2 + pre.length := by rw [hb2]; simp; omega
      refine ⟨g, cap, ?_, ?_, Hgr.out, Hat.out⟩
      · rw [hbl, ← Nat.add_assoc]; rfl
      · have := Ho.out
        rw [hbl, ← Nat.add_assoc, hb2, ← List.append_assoc]
        exact this
end Go.Proofs.YtojpjaifhjigfaaGreatDoor

/- written: the record of one event. -/
namespace Go.Proofs.YtojpjaifhjigfaaGreatDoor
open Go.RowKit Go.Maps

theorem infoEvent : (Tryz.prog.info? 151).map (·.size) = some 7 := by kernel_rfl
def evCells (b : Bat) : List Value := [.int .i64 0, .int .i64 b.dst, encStr b.ten, encStr b.id, encStr b.body, .int .i64 0, .int .i64 0]
/-- The bytes of the record of a batch that was taken. -/
def recBytes (b : Bat) : List UInt8 := [43, 0, UInt8.ofNat (evBytes b).length] ++ evBytes b
theorem evBytes_le (b : Bat) (ht : b.ten.length ≤ 16) (hid : b.id.length ≤ 16) (hbo : b.body.length ≤ 63) : (evBytes b).length ≤ 100 := by
  simp [evBytes, evParts, part]
  omega

theorem head_row (w : World) (x y z : Value) : (w.alloc (.cells #[x, y, z] 5)).ownsRow 0 5 1 (.slice (some ⟨w.heap.size, 0, none⟩) 3 3) 3 [x, y, z] :=
  ⟨rfl, Or.inr ⟨_, _, _, rfl, Nat.zero_le _, obj_new rfl _, Nat.le_refl _, by unfold maxLen; omega, rfl, rfl⟩⟩

theorem convert_row {w : World} {g cap m : Nat} {b : Bat} (h : w.ownsRow 0 5 1 (.slice (some ⟨g, 0, none⟩) (3 + m) cap) (3 + m) ([.int .u8 43, .int .u8 0, .int .u8 (m : Int)] ++ byts (evBytes b))) (hm : (evBytes b).length = m) (hm2 : (m : Int) < 256) :
    (convert 156 9 (.slice (some ⟨g, 0, none⟩) (3 + m) cap)).run Tryz.prog w = .ok (encStr (recBytes b)) w := by
  have hl : (recBytes b).length = 3 + m := by simp [recBytes, hm]; omega
  have e : [.int .u8 43, .int .u8 0, .int .u8 (m : Int)] ++ byts (evBytes b) = byts (recBytes b) := by
    unfold recBytes
    rw [byts_append]
    congr 1
    simp only [byts, List.map_cons, List.map_nil, hm, u8_of (show m < 256 by omega)]
    rfl
  rw [e] at h
  rw [← hl]
  refine run_convert_bytes_back w 156 9 5 ⟨g, 0, none⟩ cap (recBytes b) Tryz.underlying156 Tryz.underlying5 Tryz.underlying9 (fun j hj => ?_)
  exact h.cells (by simp [Value.ownBlock]) j _ (by simp [byts, hj])

set_option maxRecDepth 100000 in
set_option maxHeartbeats 2000000 in
theorem written_take (ge : Nat) (b : Bat) (w : World) (he : Blk w ge (evCells b).toArray 151) (hd : 0 ≤ b.dst ∧ b.dst < 4) (ht : b.ten.length ≤ 16) (hid : b.id.length ≤ 16) (hbo : b.body.length ≤ 63) :
    Calls Tryz.prog 110 #[.int .u8 43, .slice (some ⟨ge, 0, none⟩) 1 1] w fun e w' => e = .returned (encStr (recBytes b)) ∧ Below w.heap.size w w' := by
  obtain ⟨i0, hi, hz0, hz1, hz2⟩ := info_parts infoByte
  have hle := evBytes_le b ht hid hbo
  have hpos : 0 < (evBytes b).length := by simp [evBytes]
  have HE := hide he
  clear he
  go_enter Tryz.func110, Tryz.ntmps110
  go_wp2_with fail
  refine wp_loop_rounds 2 ?_
  rw [rounds_succ]
  go_wp2_with (first
    | (refine wpList_load_mid rfl 151 _ rfl ge 0 rfl [.int .i64 0, .int .i64 b.dst, encStr b.ten, encStr b.id, encStr b.body, .int .i64 0, .int .i64 0] _ (HE.out.range 0 _ rfl) Tryz.underlying151 rfl infoEvent ?_)
    | fail)
  refine (appendEvent_take (.slice none 0 0) 0 [] b _ (World.ownsRow_nil _ _ _ _) (by omega) hd ht hid hbo).mono ?_
  rintro e w1 ⟨g1, cap1, rfl, ho1, hg1, _⟩
  simp only [Nat.zero_add, List.nil_append] at ho1
  generalize hm : (evBytes b).length = m at *
  have Ho1 := hide ho1
  have HB1 : Hid (Below w.heap.size w w1) := ((Below.refl _ _).alloc (Nat.le_refl _) _).grown hg1 (by simp) (fun j hj => by simp [Value.ownBlock] at hj)
  have hmI : (m : Int) < 256 := by omega
  have hbl : (byts (evBytes b)).length = m * 1 := by simp [byts, hm]
  have Hm := hide hm
  clear hm
  have hm0 : (m : Int) / 256 = 0 := by omega
  clear ho1 hg1
  rw [Nat.zero_add]
  go_wp2_with fail
  rw [rounds_succ]
  go_wp2_with (first
    | (at_builtin; refine wpList_append_lies _ rfl _ _ 156 rfl 0 5 i0 (.int .u8 0) 1 1 Tryz.underlying156 hi hz0 hz1 hz2 rfl (by decide) (.slice (some ⟨w1.heap.size, 0, none⟩) 3 3) _ [.int .u8 43, .int .u8 0, .int .u8 m] rfl (head_row w1 _ _ _) ⟨g1, 0, none⟩ m cap1 (byts (evBytes b)) rfl hbl (fun j u hu => cell?_alloc_old _ (Ho1.out.cells (by simp [Value.ownBlock]) j u hu)) (by simp [byts, Value.oneCell']) (by omega) (by unfold maxLen; omega) (by omega) (Nat.zero_le _) (w1.heap.size + 1) (by simp) ?_; intro g2 cap2 w2 hown2 hg2 hat2 hlt2; have hcv := convert_row hown2 Hm.out hmI; have HB2 : Hid (Below w.heap.size w w2) := (HB1.out.alloc HB1.out.size _).grown hg2 (by simp; exact Nat.le_succ_of_le HB1.out.size) (fun j hj => by (have e : w1.heap.size = j := by simpa [Value.ownBlock] using hj); rw [← e]; exact HB1.out.size); clear hown2 hg2 hat2)
    | fail)
  go_ret
  exact ⟨rfl, HB2.out⟩
end Go.Proofs.YtojpjaifhjigfaaGreatDoor
