/- newOutlets: the destinations of a new agent. -/
import Derived.Test.YtojpjaifhjigfaaGreatDoorLib
namespace Go.Proofs.YtojpjaifhjigfaaGreatDoor
open Go.RowKit Go.Maps

theorem infoOutlet : (Tryz.prog.info? 149).map (fun i => (i.zero, i.size, i.bytes)) = some (some (.agg #[.nilFunc, .int .i64 0, .int .i64 0, .bool false, .int .i64 0, .int .i64 0, .slice none 0 0, .int .i64 0, .int .i64 0, .int .i64 0]), 10, 96) := by kernel_rfl
theorem infoOutletS : (Tryz.prog.info? 149).map (·.size) = some 10 := by kernel_rfl
theorem infoI64 : (Tryz.prog.info? 3).map (fun i => (i.zero, i.size, i.bytes)) = some (some (.int .i64 0), 1, 8) := by kernel_rfl

/-- A destination as it is at first. -/
def Out.zero (n : Nat) : Out := { res := 0, fl := 0, trip := false, unt := 0, turn := 0, cr := List.replicate n 0, sends := 0, way := -1, began := 0 }

/-- k destinations are made, from block B on; fs: what each one's breaker asks, and its credits. -/
def Made (wr : World) (B th n : Nat) (fs : List (Value × Value)) : Prop :=
  ∀ (i : Nat) (f : Value × Value), fs[i]? = some f → ∃ g1 g2 : Nat, f = (Value.func (.func 152) #[] #[.pointer (some ⟨g1, 0, none⟩)], Value.slice (some ⟨g2, 0, none⟩) n n) ∧ B ≤ g1 ∧ B ≤ g2 ∧ Blk wr g1 #[.float .f64 th] 23 ∧ wr.ownsRow 0 3 1 (.slice (some ⟨g2, 0, none⟩) n n) n (List.replicate n (.int .i64 0))
/-- No two have one row of credits. -/
def Apart (fs : List (Value × Value)) : Prop := ∀ (i j : Nat) (f f' : Value × Value), i < j → fs[i]? = some f → fs[j]? = some f' → f.2.ownBlock ≠ f'.2.ownBlock

theorem Made.keep {wr wr' : World} {B th n : Nat} {fs : List (Value × Value)} (h : Made wr B th n fs) (hk : ∀ g cur t, Blk wr g cur t → B ≤ g → Blk wr' g cur t) : Made wr' B th n fs := fun i f hf => by
  obtain ⟨g1, g2, h1, h2, h3, h4, h5⟩ := h i f hf
  refine ⟨g1, g2, h1, h2, h3, hk _ _ _ h4 h2, h5.1, ?_⟩
  rcases h5.2 with ⟨q, _⟩ | ⟨g, cap, cur, q1, q2, q3, q4⟩
  · cases q
  · have e : g2 = g := by simp at q1; exact q1.1
    subst e
    exact Or.inr ⟨g2, cap, cur, q1, q2, hk _ _ _ q3 h3, q4⟩

set_option maxRecDepth 100000 in
set_option maxHeartbeats 2000000 in
theorem newOutlets_any (c : Cfg) (b nb : Nat) (D : DataW Unit) (w : World) (h0 : 1 ≤ c.d) (h1 : c.d ≤ 4) (hown : OM w b nb D) (hsz : Maps.size D ≤ 8) : Calls Tryz.prog 102 #[c.val (some b)] w fun e w' =>
    ∃ g fs, e = .returned (.slice (some ⟨g, 0, none⟩) c.d.toNat c.d.toNat) ∧ w.heap.size ≤ g ∧ fs.length = c.d.toNat ∧ w'.ownsRow w.heap.size 149 10 (.slice (some ⟨g, 0, none⟩) c.d.toNat c.d.toNat) c.d.toNat (fs.flatMap fun f => (Out.zero (Maps.size D)).cells f.1 f.2) ∧
      Made w' (g + 1) c.th (Maps.size D) fs ∧ Apart fs ∧ Below w.heap.size w w' := by
  obtain ⟨i0, hi, hz0, hz1, hz2⟩ := info_parts infoOutlet
  obtain ⟨d, hd⟩ : ∃ d : Nat, c.d = d := ⟨c.d.toNat, by omega⟩
  have hdt : c.d.toNat = d := by omega
  have hd4 : d ≤ 4 := by omega
  rw [hdt]
  have HO := hide hown
  clear hown hdt
  go_enter Tryz.func102, Tryz.ntmps102
  go_wp2_with (first
    | (at_make; refine wpList_make_full _ rfl _ _ 136 rfl w.heap.size 149 i0 _ 10 Tryz.underlying136 hi hz0 hz1 _ _ _ _ d rfl rfl rfl rfl (by rw [hz2]; omega) (by unfold maxLen; omega) (by simp) ?_; intro w1 hrow hg1; have HR0 := hide hrow; have HG1 := hide hg1; clear hrow hg1)
    | fail)
  have hB1 : Below (w.heap.size + 1) (w.alloc (.cells (c.cells (some b)) 25)) w1 := (Below.refl _ _).grown HG1.out (by simp) (fun j hj => by cases hj)
  have hKc : Blk w1 w.heap.size (c.cells (some b)) 25 := (Blk.new w _ _).below hB1 (by omega)
  have hBw : Below w.heap.size w w1 := ((Below.refl _ _).alloc (Nat.le_refl _) _).trans (hB1.mono (by omega))
  obtain ⟨cur, hblk, hcs⟩ : ∃ cur, Blk w1 (w.heap.size + 1) cur 149 ∧ cur.size = d * 10 := by
    rcases HR0.out.2 with ⟨h, _⟩ | ⟨g, cap, cur, h, _, hb, _, _, hs, _⟩
    · cases h
    · simp at h
      obtain ⟨rfl, rfl⟩ := h
      exact ⟨cur, hb, by simpa using hs⟩
  have HC := hide hKc
  have HB := hide hBw
  have HK := hide hblk
  have Hcs := hide hcs
  have Hd := hide hd
  clear hB1 hKc hBw hblk hcs HR0 HG1 hd
  generalize hN : w.heap.size = N at *
  have HN := hide hN
  clear hN
  obtain ⟨i1, hi1, hy0, hy1, hy2⟩ := info_parts infoI64
  go_loopw [10] (fun i wr => ∃ (k : Nat) (cur : Array Value) (fs : List (Value × Value)), k ≤ d ∧ i = .int .i64 k ∧ fs.length = k ∧ Blk wr (N + 1) cur 149 ∧ cur.size = d * 10 ∧ cur.toList.take (k * 10) = (fs.flatMap fun f => (Out.zero (Maps.size D)).cells f.1 f.2) ∧
      Made wr (N + 1 + 1) c.th (Maps.size D) fs ∧ Apart fs ∧ Blk wr N (c.cells (some b)) 25 ∧ Below N w wr) (fun i _ => d - (intOf i).toNat)
  case atStart => exact ⟨0, cur, [], Nat.zero_le _, rfl, rfl, HK.out, Hcs.out, by simp, fun i f hf => by simp at hf, fun i j f f' _ hf => by simp at hf, HC.out, HB.out⟩
  case round =>
    obtain ⟨k, cur', fs, hk, rfl, hfl, hblk, hcs', hft, hmade, hap, hcb, hnx⟩ := hrel
    have Hblk := hide hblk
    have Hcs' := hide hcs'
    have Hft := hide hft
    have Hm := hide hmade
    have Hap := hide hap
    have Hcb := hide hcb
    have Hnx := hide hnx
    have hNl : N + 1 < wr.heap.size := hblk.lt
    obtain ⟨e0, e1, e2, e3, e4, e5, e6, e7, e8, e9, e10⟩ : wr.cell? ⟨N, 0, none⟩ = some (.int .i64 c.d) ∧ wr.cell? ⟨N, 1, none⟩ = some (.map (some b)) ∧ wr.cell? ⟨N, 2, none⟩ = some (.int .i64 c.q) ∧ wr.cell? ⟨N, 3, none⟩ = some (.int .i64 c.at') ∧ wr.cell? ⟨N, 4, none⟩ = some (.int .i64 c.ba) ∧ wr.cell? ⟨N, 5, none⟩ = some (.int .i64 c.ca) ∧ wr.cell? ⟨N, 6, none⟩ = some (.int .i64 c.ti) ∧ wr.cell? ⟨N, 7, none⟩ = some (.int .i64 c.wi) ∧ wr.cell? ⟨N, 8, none⟩ = some (.int .i64 c.le) ∧ wr.cell? ⟨N, 9, none⟩ = some (.float .f64 c.th) ∧ wr.cell? ⟨N, 10, none⟩ = some (.int .i64 c.op) := ⟨hcb.cell 0, hcb.cell 1, hcb.cell 2, hcb.cell 3, hcb.cell 4, hcb.cell 5, hcb.cell 6, hcb.cell 7, hcb.cell 8, hcb.cell 9, hcb.cell 10⟩
    have hmk : ∀ W : World, (Instr.makeSlice 51 (.int .i64 (Maps.size D : Int)) (.int .i64 (Maps.size D : Int))).run Tryz.prog W = .ok (.slice (some ⟨W.heap.size, 0, none⟩) (Maps.size D) (Maps.size D)) (W.alloc (.cells (madeCells (Value.int .i64 0).cells (Maps.size D)) 3)) := fun W => by
      have := run_make (P := Tryz.prog) W 51 3 i1 (.int .i64 0) Tryz.underlying51 hi1 hy0 .i64 .i64 (Maps.size D) (Maps.size D) (by omega) (by omega) (by rw [hy2]; omega) (by omega)
      rw [hy1] at this
      simpa using this
    clear hblk hcs' hft hmade hap hcb hnx
    by_cases hlt : k < d
    · have hltI : (k : Int) < (d : Int) := by omega
      obtain ⟨es, clock, hes, hes2⟩ := om_below HO.out Hnx.out (by rw [← HN.out]; exact HO.out.lt)
      have hlen : ∀ (W : World), W.heap[b]? = some (.map es clock) → ∀ ty, (Builtin.len_ #[22] ty #[.map (some b)]).run Tryz.prog W = .ok (.int .i64 (Maps.size D)) W := fun W hW ty => World.ownsMap.len (n := nb) (R := plainElem Tryz.prog 3) ⟨es, clock, hW, hes2⟩ Tryz.underlying22 ty
      have hl0 := hlen wr.drew hes
      have hl1 := fun o => hlen (wr.alloc o).drew ((Below.heap_alloc _ _ _ (Array.getElem?_eq_some_iff.1 hes).1).trans hes)
      have Hes := hide hes
      have Hlen := hide hlen
      clear hes2 hes hlen
      have hNl0 : N < wr.heap.size := by omega
      go_wp2_with fail
      go_region_with
        (first
          | (go_at_call 128; refine (newBreaker_any c (some b) _).mono ?_; rintro e w2 ⟨g1, rfl, hb2, hg1, hq1⟩; have hc2 := fun o => hb2.cell (p := ⟨N, o, none⟩) hNl0; have hl2 := Hlen.out w2 ((hb2.block b (Array.getElem?_eq_some_iff.1 Hes.out).1).trans Hes.out); have hk2 : Blk w2 (N + 1) cur' 149 := Blk.below (w := wr.drew) Hblk.out hb2 hNl; have hfz := fun o => hk2.frozen o; have z0 : w2.cell? ⟨N + 1, k * 10, none⟩ = some (cur'[k * 10]'(by have := Hcs'.out; omega)) := (hk2.cell _).trans (Array.getElem?_eq_getElem _); have z1 : w2.cell? ⟨N + 1, k * 10 + 1, none⟩ = some (cur'[k * 10 + 1]'(by have := Hcs'.out; omega)) := (hk2.cell _).trans (Array.getElem?_eq_getElem _); have z2 : w2.cell? ⟨N + 1, k * 10 + 2, none⟩ = some (cur'[k * 10 + 2]'(by have := Hcs'.out; omega)) := (hk2.cell _).trans (Array.getElem?_eq_getElem _); have z3 : w2.cell? ⟨N + 1, k * 10 + 3, none⟩ = some (cur'[k * 10 + 3]'(by have := Hcs'.out; omega)) := (hk2.cell _).trans (Array.getElem?_eq_getElem _); have z4 : w2.cell? ⟨N + 1, k * 10 + 4, none⟩ = some (cur'[k * 10 + 4]'(by have := Hcs'.out; omega)) := (hk2.cell _).trans (Array.getElem?_eq_getElem _); have z5 : w2.cell? ⟨N + 1, k * 10 + 5, none⟩ = some (cur'[k * 10 + 5]'(by have := Hcs'.out; omega)) := (hk2.cell _).trans (Array.getElem?_eq_getElem _); have z6 : w2.cell? ⟨N + 1, k * 10 + 6, none⟩ = some (cur'[k * 10 + 6]'(by have := Hcs'.out; omega)) := (hk2.cell _).trans (Array.getElem?_eq_getElem _); have z7 : w2.cell? ⟨N + 1, k * 10 + 7, none⟩ = some (cur'[k * 10 + 7]'(by have := Hcs'.out; omega)) := (hk2.cell _).trans (Array.getElem?_eq_getElem _); have z8 : w2.cell? ⟨N + 1, k * 10 + 8, none⟩ = some (cur'[k * 10 + 8]'(by have := Hcs'.out; omega)) := (hk2.cell _).trans (Array.getElem?_eq_getElem _); have z9 : w2.cell? ⟨N + 1, k * 10 + 9, none⟩ = some (cur'[k * 10 + 9]'(by have := Hcs'.out; omega)) := (hk2.cell _).trans (Array.getElem?_eq_getElem _); have Hb2 := hide hb2; have Hg1 := hide hg1; have Hq1 := hide hq1; have Hk2 := hide hk2; have hNl2 := hk2.lt; clear hb2 hg1 hq1 hk2))
      all_goals
        go_wp2_with fail
        go_roundw
        case rel =>
          generalize hX : (World.setCell (World.setCell (World.setCell (World.setCell (World.setCell (World.setCell (World.setCell (World.setCell (World.setCell (World.setCell w2 _ _) _ _) _ _) _ _) _ _) _ _) _ _) _ _) _ _) _ _) = X
          have hX' : w2.setCells (N + 1) (k * 10) ((Out.zero (Maps.size D)).cells (.func (.func 152) #[] #[.pointer (some ⟨g1, 0, none⟩)]) (.slice (some ⟨w2.heap.size, 0, none⟩) (Maps.size D) (Maps.size D))) = X := hX
          clear hX
          subst hX'
          have hkX := Blk.setCells ((Out.zero (Maps.size D)).cells (.func (.func 152) #[] #[.pointer (some ⟨g1, 0, none⟩)]) (.slice (some ⟨w2.heap.size, 0, none⟩) (Maps.size D) (Maps.size D))) (k * 10) Hk2.out
          have hzX : (w2.setCells (N + 1) (k * 10) ((Out.zero (Maps.size D)).cells (.func (.func 152) #[] #[.pointer (some ⟨g1, 0, none⟩)]) (.slice (some ⟨w2.heap.size, 0, none⟩) (Maps.size D) (Maps.size D)))).heap.size = w2.heap.size := size_setCells _ _
          have hoth : ∀ g cur t, Blk wr g cur t → g ≠ N + 1 → Blk (w2.setCells (N + 1) (k * 10) ((Out.zero (Maps.size D)).cells (.func (.func 152) #[] #[.pointer (some ⟨g1, 0, none⟩)]) (.slice (some ⟨w2.heap.size, 0, none⟩) (Maps.size D) (Maps.size D)))) g cur t := fun g cur t hb hne => Blk.setCellsOther hne _ _ (Blk.below (w := wr.drew) hb Hb2.out hb.lt)
          have hw2 : wr.heap.size ≤ w2.heap.size := Hb2.out.size
          refine ⟨k + 1, _, fs ++ [(Value.func (.func 152) #[] #[.pointer (some ⟨g1, 0, none⟩)], Value.slice (some ⟨w2.heap.size, 0, none⟩) (Maps.size D) (Maps.size D))], by omega, by go_num, by simp [hfl], hkX.alloc _, by rw [splice_size]; exact Hcs'.out, ?_, ?_, ?_, (hoth _ _ _ Hcb.out (by omega)).alloc _, ?_⟩
          · have := splice_take (l := (Out.zero (Maps.size D)).cells (.func (.func 152) #[] #[.pointer (some ⟨g1, 0, none⟩)]) (.slice (some ⟨w2.heap.size, 0, none⟩) (Maps.size D) (Maps.size D))) (cs := cur') (o := k * 10) (by rw [Hcs'.out]; simp [Out.cells]; omega)
            rw [Hft.out] at this
            rw [Nat.succ_mul]
            rw [List.flatMap_append]
            simpa [Out.cells] using this
          · intro i f hf
            by_cases hif : i < fs.length
            · rw [List.getElem?_append_left hif] at hf
              exact (Hm.out.keep (fun g cur t hb hg => (hoth g cur t hb (by omega)).alloc _)) i f hf
            · rw [List.getElem?_append_right (by omega)] at hf
              have e : i - fs.length = 0 := by
                have := (List.getElem?_eq_some_iff.1 hf).1
                simp at this; omega
              rw [e] at hf
              simp at hf
              have hg1' : wr.heap.size ≤ g1 := Hg1.out
              refine ⟨g1, w2.heap.size, hf.symm, by omega, by omega, (Blk.setCellsOther (by omega) _ _ Hq1.out).alloc _, ?_⟩
              have := Blk.made (V := w2.setCells (N + 1) (k * 10) ((Out.zero (Maps.size D)).cells (.func (.func 152) #[] #[.pointer (some ⟨g1, 0, none⟩)]) (.slice (some ⟨w2.heap.size, 0, none⟩) (Maps.size D) (Maps.size D)))) hzX (madeCells #[.int .i64 0] (Maps.size D)) 3
              exact ⟨by simp, Or.inr ⟨_, _, _, rfl, Nat.zero_le _, this, Nat.le_refl _, by unfold maxLen; omega, by simp [size_madeCells], by simp [toList_madeCells_one]⟩⟩
          · intro i j f f' hij hf hf'
            have hj : j < fs.length + 1 := by
              have := (List.getElem?_eq_some_iff.1 hf').1
              simpa using this
            rw [List.getElem?_append_left (by omega)] at hf
            by_cases hjf : j < fs.length
            · rw [List.getElem?_append_left hjf] at hf'
              exact Hap.out i j f f' hij hf hf'
            · rw [List.getElem?_append_right (by omega), show j - fs.length = 0 by omega] at hf'
              simp at hf'
              obtain ⟨a1, a2, rfl, _, _, _, a6⟩ := Hm.out i f hf
              have hlt2 : a2 < wr.heap.size := (a6.lt a2 (by simp [Value.ownBlock])).2
              subst hf'
              simp [Value.ownBlock]
              omega
          · have hb3 : Below N w w2 := Hnx.out.drew.trans (Hb2.out.mono (by show N ≤ wr.heap.size; omega))
            exact (below_setCells (by omega) _ _ hb3).alloc (by rw [hzX]; omega) _
        case measure => simp [intOf]; omega
    · have e : k = d := by omega
      subst e
      go_wp2_with fail
      go_ret
      refine ⟨N + 1, fs, rfl, by rw [HN.out]; omega, hfl, ?_, Hm.out, Hap.out, by rw [HN.out]; exact Hnx.out⟩
      refine ⟨by rw [← Hft.out]; simp [Hcs'.out], Or.inr ⟨_, _, cur', rfl, by rw [HN.out]; omega, Hblk.out, Nat.le_refl _, by unfold maxLen; omega, Hcs'.out, Hft.out⟩⟩
end Go.Proofs.YtojpjaifhjigfaaGreatDoor
