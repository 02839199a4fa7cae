/- keepMap: a map that came out is emptied, and one number of its owner's stands in it. -/
import Derived.Test.YtojpjaifhjigfaaGreatDoorBook
namespace Go.Proofs.YtojpjaifhjigfaaGreatDoor
open Go.RowKit Go.Maps

theorem clear_map {P : Program} {w : World} {t k e : TypeId} {r : Nat} {es : Array MapEntry} {clock : Nat} (hm : P.underlying t = some (.map k e)) (hb : w.heap[r]? = some (.map es clock)) (ty : TypeId) :
    (Builtin.clear_ #[t] ty #[.map (some r)]).run P w = .ok (.tuple #[]) (ChangeMaps.setBlock w r (.map #[] clock)) := by
  simp [Builtin.clear_, run_underlying hm, MapKept.run_getObj_map hb, MapKept.run_setObj_map _ hb, Result.andThen]
  rfl
theorem fit_none {H : Type} (P : Program) (k : TypeId) (R : Value → Option (DataW H × List MemPlace)) (clock : Nat) : WideElems.Fit P k R #[] clock := by
  exact ⟨Nat.zero_le _, ⟨fun x hx => by simp at hx, by simp, by simp⟩, fun x hx => by simp at hx⟩
theorem keyCallers : keyOf Tryz.prog 9 (.string ⟨callers.toArray⟩) = some (.string callers) := keyStr (x := callers) (by unfold maxLen; decide)

def kmP (k : Nat) : Lab → Prop := fun l => l = bl 4 k ∨ l = bl 3 0 ∨ l = bl 2 0

set_option maxRecDepth 100000 in
set_option maxHeartbeats 2000000 in
theorem keepMap_any (L : Labs) (gw n b nb : Nat) (D : DataW Unit) (mv : Value) (cur : Array Value) (w : World) (hK : BlkAt w L (bl 2 0) gw cur 38) (hc : cur[25]? = some mv) (hT : MapsAt w L mv n) (hn : n ≤ 8000000)
    (hl : OMapAt w L (bl 4 n) Tryz.prog 9 (plainElem Tryz.prog 3) b nb D) :
    Calls Tryz.prog 82 #[.pointer (some ⟨gw, 23, none⟩), .map (some b)] w fun e w' => e = .returned (.tuple #[]) ∧ ∃ L' mv', BlkAt w' L' (bl 2 0) gw (cur.setIfInBounds 25 mv') 38 ∧ MapsAt w' L' mv' (n + 1) ∧ Step (kmP n) L w L' w' := by
  obtain ⟨ls, hR, hls⟩ := hT
  obtain ⟨ta, tk, rfl, _⟩ := hR.shape
  have hgw := hK.1.lt
  have hbl := hl.1.lt
  obtain ⟨es, clock, hes, _⟩ := hl.1
  have hq := fun w => run_eql_map_nil (P := Tryz.prog) w 22 9 3 (some b) Tryz.underlying22
  have hclr := fun ty => clear_map (P := Tryz.prog) Tryz.underlying22 hes ty
  have hS1 : Step (fun l => l = bl 4 n) L w L (ChangeMaps.setBlock w b (.map #[] clock)) := ⟨rfl, rfl, rfl, by simp [ChangeMaps.setBlock], fun _ _ => rfl, fun k hk hne => ChangeMaps.heap_setBlock_other hes _ (fun e => hne (by rw [e]; exact hl.2))⟩
  have hO1 : OM (ChangeMaps.setBlock w b (.map #[] clock)) b 0 (.map []) := ⟨#[], clock, ChangeMaps.heap_setBlock_same hes _, fit_none _ _ _ _, Nat.le_refl _, rfl⟩
  generalize hw1 : ChangeMaps.setBlock w b (.map #[] clock) = w1 at *
  have hk1 : BlkAt w1 L (bl 2 0) gw cur 38 := hK.keep hS1 (by simp [bl])
  have a25 : w1.cell? ⟨gw, 25, none⟩ = some (.slice ta n tk) := (hk1.1.cell 25).trans hc
  have HK := hide hK
  have HR := hide hR
  have HL := hide hls
  have HC := hide hc
  have Hl2 := hide hl.2
  have HS1 := hide hS1
  have HK1 := hide hk1
  clear hK hR hls hc hl hS1 hk1 hes hw1
  obtain ⟨i2, hi2, ho0, ho1, ho2⟩ := info_parts infoMapT
  go_enter Tryz.func82, Tryz.ntmps82
  go_wp2_with (first
    | (at_mapUpdate; refine wpList_mapUpdate_own _ rfl _ _ _ 22 rfl 9 3 lawS Tryz.underlying22 _ b 0 _ rfl hO1 (by unfold maxLen; omega) _ _ _ rfl rfl keyCallers _ [] (plainElem_int Tryz.underlying3 (WalkArith.wf_i64 (by omega))) ?_; intro w2 hO2 hg2; have hS2 : Step (fun l => l = bl 4 n) L w L w2 := HS1.out.trans (Step.of_grown hg2 (fun j hj => by cases hj; exact Hl2.out) (fun _ _ => rfl)); have hk2 : BlkAt w2 L (bl 2 0) gw cur 38 := HK.out.keep hS2 (by simp [bl]); have b25 : w2.cell? ⟨gw, 25, none⟩ = some (.slice ta n tk) := (hk2.1.cell 25).trans HC.out; have HS2 := hide hS2; have HKW := hide hk2; have HO2 := hide hO2; have HRW : Hid (RowAt w2 L (bl 3 0) 22 1 (.slice ta n tk) n ls) := HR.out.keep hS2 (by simp [bl]); clear hS2 hk2 hO2 hg2)
    | (at_builtin; refine wpList_append_lies _ rfl _ _ 34 rfl 0 22 i2 (.map none) 1 8 Tryz.underlying34 hi2 ho0 ho1 ho2 rfl (by decide) _ _ _ rfl (HRW.out.1.alloc _) ⟨w2.heap.size, 0, none⟩ 1 1 [.map (some b)] rfl rfl (World.news_of_block (cs := #[.map (some b)]) (t := 22) (fr := (0, 0)) (heap_alloc_new w2 _)) (by simp [Value.oneCell']) (by decide) (by unfold maxLen; omega) (by omega) (Nat.zero_le _) (w2.heap.size + 1) (by simp) ?_; intro gg cap w9 hown9 hg9 hat9 hlt9; have hK9 := Blk.grown (HKW.out.1.alloc _) hg9 (fun e => by have := HRW.out.2 gw e.symm; rw [HKW.out.2] at this; simp [bl] at this); have c25 := (hK9.cell 25).trans HC.out; have d25 := hK9.frozen 25; have HK9 := hide hK9; have HO9 := hide hown9; have HG9 := hide hg9; have HAt9 := hide hat9; clear hK9 hown9 hg9 hat9)
    | fail)
  go_end0
  have hat : (Value.slice ta n tk).ownBlock = some gg ∨ w2.heap.size + 1 ≤ gg := HAt9.out.imp id (fun e => by omega)
  obtain ⟨hrow, hlab⟩ := RowAt.appended (w0 := w2.alloc (.cells #[.map (some b)] 22)) (HRW.out.keep (Step.alloc (p := fun _ => False) L w2 _) (fun h => h)) HO9.out (by simpa using hat)
  have hSa : Step (fun l => l = bl 3 0 ∨ l = bl 2 0) L w2 (lay L gg (bl 3 0)) w9 := (Step.alloc L w2 _).trans (Step.of_grown HG9.out (fun j hj => Or.inl (HRW.out.2 j hj)) hlab)
  have hgw2 := HKW.out.1.lt
  have hgl9 : lay L gg (bl 3 0) gw = bl 2 0 := (hlab gw (by simp; omega)).trans HKW.out.2
  have hS3 : Step (fun l => l = bl 3 0 ∨ l = bl 2 0) L w2 (lay L gg (bl 3 0)) (w9.setCell ⟨gw, 25, none⟩ (.slice (some ⟨gg, 0, none⟩) (n + 1) cap)) := hSa.trans (Step.setCell _ w9 ⟨gw, 25, none⟩ _ (Or.inr hgl9))
  refine ⟨rfl, lay L gg (bl 3 0), _, ⟨HK9.out.set 25 _, hgl9⟩, ⟨_, hrow.keep (Step.setCell (p := fun l => l = bl 2 0) _ w9 ⟨gw, 25, none⟩ _ hgl9) (by simp [bl]), fun i u hu => ?_⟩, (HS2.out.mono (fun l h => Or.inl h)).trans (hS3.mono (fun l h => Or.inr h))⟩
  have hll : ls.length = n := by have := HR.out.1.1; omega
  by_cases hil : i < ls.length
  · rw [List.getElem?_append_left hil] at hu
    obtain ⟨b', q1, q2⟩ := HL.out i u hu
    exact ⟨b', q1, (q2.keep HS2.out (by simp [bl]; omega)).keep hS3 (by simp [bl])⟩
  · rw [List.getElem?_append_right (by omega)] at hu
    obtain ⟨j, rfl⟩ : ∃ j, i = ls.length + j := ⟨i - ls.length, by omega⟩
    simp only [Nat.add_sub_cancel_left] at hu
    have hj1 : j < 1 := by
      have := (List.getElem?_eq_some_iff.1 hu).1
      simpa using this
    obtain rfl : j = 0 := by omega
    simp at hu
    subst hu
    have hO3 : OMapAt w2 L (bl 4 n) Tryz.prog 9 (plainElem Tryz.prog 3) b 1 (oneMap n) := ⟨HO2.out, Hl2.out⟩
    rw [Nat.add_zero, hll]
    exact ⟨b, rfl, hO3.keep hS3 (by simp [bl])⟩
end Go.Proofs.YtojpjaifhjigfaaGreatDoor
