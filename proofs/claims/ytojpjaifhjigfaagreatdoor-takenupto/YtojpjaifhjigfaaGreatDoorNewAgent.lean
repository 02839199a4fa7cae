/- newAgent: a new agent, in new memory. -/
import Derived.Test.YtojpjaifhjigfaaGreatDoorOutlets
namespace Go.Proofs.YtojpjaifhjigfaaGreatDoor
open Go.RowKit Go.Maps

set_option maxRecDepth 100000 in
set_option maxHeartbeats 400000 in
theorem clone_some (b : Nat) (es : Array MapEntry) (clock : Nat) (w : World) (hb : w.heap[b]? = some (.map es clock)) :
    Calls Tryz.prog 98 #[.map (some b)] w fun e w' => e = .returned (.map (some w.heap.size)) ∧ w' = w.alloc (.map es clock) := by
  have hq := fun w => run_eql_map_nil (P := Tryz.prog) w 22 _ _ (some b) Tryz.underlying22
  go_enter Tryz.func98, Tryz.ntmps98
  go_wp2
  rw [run_callFunc_extern Tryz.func124 (by kernel_rfl) (by kernel_rfl) (by kernel_rfl) (e := Extern.MapsClone.clone) (by kernel_rfl), run_maps_clone_sl w 22 hb]
  simp only [Result.andThen]
  rw [Oper.upon_value]
  go_wp2
  rw [run_typeAssert_map_sl _ 22 20 _ _ _ Tryz.underlying22]
  simp only [Result.andThen]
  rw [Oper.upon_value]
  go_wp2
  go_ret
  exact ⟨rfl, rfl⟩

theorem below_alloc_size {B : Nat} {w w' : World} {o : Obj} (h : Below B (w.alloc o) w') : w.heap.size + 1 ≤ w'.heap.size := by
  have := h.size
  simpa using this

theorem ownsRow_shape {w : World} {base : Nat} {e : TypeId} {size : Nat} {v : Value} {n : Nat} {xs : List Value} (h : w.ownsRow base e size v n xs) : ∃ a k, v = .slice a n k := by
  rcases h.2 with ⟨rfl, rfl⟩ | ⟨g, cap, cur, rfl, _⟩
  · exact ⟨_, _, rfl⟩
  · exact ⟨_, _, rfl⟩

/-- The parts of a new agent. -/
structure NewAg (w w' : World) (c : Cfg) (D : DataW Unit) (g bq bm cn go : Nat) (nv : Value) (ns : List (List UInt8)) (fs : List (Value × Value)) : Prop where
  blk : Blk w' g (agCells bq bm (.slice none 0 0) (.slice none 0 0) nv (.slice none 0 0) (.slice (some ⟨go, 0, none⟩) c.d.toNat c.d.toNat) (Ag.new c D ns)) 138
  bg : w.heap.size ≤ g
  qm : w'.heap[bq]? = some (.map #[] 0)
  bbq : w.heap.size ≤ bq
  cm : OM w' bm cn D
  bbm : w.heap.size ≤ bm
  ne : bq ≠ bm
  nm : w'.ownsRow w.heap.size 9 1 nv ns.length (ns.map encStr)
  pm : ns.Perm (strKeys D)
  so : ns.Pairwise (fun x y => x ≤ y)
  ol : w'.ownsRow w.heap.size 149 10 (.slice (some ⟨go, 0, none⟩) c.d.toNat c.d.toNat) c.d.toNat (fs.flatMap fun f => (Out.zero (Maps.size D)).cells f.1 f.2)
  bo : w.heap.size ≤ go
  fl : fs.length = c.d.toNat
  md : Made w' (go + 1) c.th (Maps.size D) fs
  ap : Apart fs
  bw : Below w.heap.size w w'

set_option maxRecDepth 100000 in
set_option maxHeartbeats 2000000 in
theorem newAgent_any (c : Cfg) (b nb : Nat) (D : DataW Unit) (w : World) (h0 : 1 ≤ c.d) (h1 : c.d ≤ 4) (hown : OM w b nb D) (hsz : Maps.size D ≤ 8) : Calls Tryz.prog 63 #[c.val (some b)] w fun e w' =>
    ∃ g bq bm cn go nv ns fs, e = .returned (.pointer (some ⟨g, 0, none⟩)) ∧ NewAg w w' c D g bq bm cn go nv ns fs := by
  have HO := hide hown
  have hsz' : Maps.size D ≤ 120 := by omega
  clear hown
  go_enter Tryz.func63, Tryz.ntmps63
  go_wp2_with fail
  obtain ⟨es, clock, hb0, hb1⟩ := HO.out.alloc (.cells (c.cells (some b)) 25)
  refine (clone_some b es clock _ hb0).mono ?_
  rintro e w' ⟨rfl, rfl⟩
  have hbl := HO.out.lt
  clear hb0
  go_wp2_with fail
  generalize hW : World.alloc (World.alloc w _) (Obj.map es clock) = W
  have hB : Below w.heap.size w W := by rw [← hW]; exact ((Below.refl _ _).alloc (Nat.le_refl _) _).alloc (by simp) _
  have hK : Blk W w.heap.size (c.cells (some (w.heap.size + 1))) 25 := by rw [← hW]; exact (Blk.new w _ _).alloc _
  have hM : OM W (w.heap.size + 1) nb D := by
    rw [← hW]
    exact ⟨es, clock, obj_new (by simp) _, hb1⟩
  have hlt : w.heap.size < W.heap.size := hK.lt
  have hltm : w.heap.size + 1 < W.heap.size := hM.lt
  have e0 := hK.cell 0
  have e1 := hK.cell 1
  have e2 := hK.cell 2
  have e3 := hK.cell 3
  have e4 := hK.cell 4
  have e5 := hK.cell 5
  have e6 := hK.cell 6
  have e7 := hK.cell 7
  have e8 := hK.cell 8
  have e9 := hK.cell 9
  have e10 := hK.cell 10
  simp at e0 e1 e2 e3 e4 e5 e6 e7 e8 e9 e10
  have HB := hide hB
  have HK := hide hK
  have HM := hide hM
  clear hB hK hW hM hb1
  go_region_held3 (fun w' => w'.cell? ⟨w.heap.size, 0, none⟩ = some (.int .i64 c.d) ∧ w'.cell? ⟨w.heap.size, 1, none⟩ = some (.map (some (w.heap.size + 1))) ∧ w'.cell? ⟨w.heap.size, 2, none⟩ = some (.int .i64 c.q) ∧ w'.cell? ⟨w.heap.size, 3, none⟩ = some (.int .i64 c.at') ∧ w'.cell? ⟨w.heap.size, 4, none⟩ = some (.int .i64 c.ba) ∧ w'.cell? ⟨w.heap.size, 5, none⟩ = some (.int .i64 c.ca) ∧ w'.cell? ⟨w.heap.size, 6, none⟩ = some (.int .i64 c.ti) ∧ w'.cell? ⟨w.heap.size, 7, none⟩ = some (.int .i64 c.wi) ∧ w'.cell? ⟨w.heap.size, 8, none⟩ = some (.int .i64 c.le) ∧ w'.cell? ⟨w.heap.size, 9, none⟩ = some (.float .f64 c.th) ∧ w'.cell? ⟨w.heap.size, 10, none⟩ = some (.int .i64 c.op)) (go_keep)
    (first
      | (go_at_call 99; refine (newLasting_any _).mono ?_; rintro e w1 ⟨bq, rfl, hb1, hq1, hq2⟩; have hc1 := fun o => hb1.cell (p := ⟨w.heap.size, o, none⟩) hlt; have hz1 : W.heap.size ≤ w1.heap.size := hb1.size; have hlt1 : w.heap.size < w1.heap.size := Nat.lt_of_lt_of_le hlt hz1; have Hb1 := hide hb1; have Hq1 := hide hq1; have Hq2 := hide hq2; clear hb1 hq1 hq2)
      | (go_at_call 101; refine (keys_any _ _).mono ?_; rintro e w' ⟨rfl, rfl⟩)
      | (go_at_call 100; refine (sorted_any (w.heap.size + 1) nb D w1 (om_below (w := W.drew) HM.out Hb1.out hltm) hsz').mono ?_; rintro e w2 ⟨nv, ss, rfl, hp2, hr2, hb2⟩; obtain ⟨na, nk, rfl⟩ := ownsRow_shape hr2; have hc2 := fun o => (hb2.cell (p := ⟨w.heap.size, o, none⟩) (Nat.lt_succ_of_lt hlt1)).trans (World.cell?_of_block (Below.heap_alloc _ _ _ hlt1)); have hz2 := below_alloc_size hb2; have Hb2 := hide hb2; have Hp2 := hide hp2; have Hr2 := hide hr2; clear hb2 hp2 hr2)
      | (go_at_call 102; refine (newOutlets_any c (w.heap.size + 1) nb D w2 h0 h1 (om_below ((om_below (w := W.drew) HM.out Hb1.out hltm).alloc _) Hb2.out (Nat.lt_succ_of_lt (Nat.lt_of_lt_of_le hltm hz1))) hsz).mono ?_; rintro e w3 ⟨go, fs, rfl, ho1, ho2, ho3, ho4, ho5, hb3⟩; have hc3 := fun o => hb3.cell (p := ⟨w.heap.size, o, none⟩) (Nat.lt_of_lt_of_le hlt1 (Nat.le_of_succ_le hz2)); have Ho1 := hide ho1; have Ho2 := hide ho2; have Ho3 := hide ho3; have Ho4 := hide ho4; have Ho5 := hide ho5; have Hb3 := hide hb3; clear ho1 ho2 ho3 ho4 ho5 hb3))
  all_goals
    go_wp2_with fail
    go_ret
    have hbW3 : Below w.heap.size w w3 := ((HB.out.drew.trans (Hb1.out.mono (Nat.le_of_lt hlt))).alloc (Nat.le_of_lt hlt1) _).trans ((Hb2.out.mono (by omega)).trans (Hb3.out.mono (by omega)))
    have hb13 : Below w1.heap.size w1 w3 := ((Below.refl _ _).alloc (Nat.le_refl _) _).trans ((Hb2.out.mono (by omega)).trans (Hb3.out.mono (by omega)))
    have hq1 : W.heap.size ≤ bq := Hq1.out
    have hbq : bq < w1.heap.size := (Array.getElem?_eq_some_iff.1 Hq2.out).1
    have hW1 : W.heap.size ≤ w1.heap.size := hz1
    have ho1 : w2.heap.size ≤ go := Ho1.out
    have hsrt : (ss.mergeSort (fun x y => decide (x ≤ y))).Perm (strKeys D) := (List.mergeSort_perm ss _).trans Hp2.out
    refine ⟨w3.heap.size, bq, w.heap.size + 1, nb, go, .slice na ss.length nk, ss.mergeSort (fun x y => decide (x ≤ y)), fs, rfl, { blk := ?_, bg := hbW3.size, qm := ?_, bbq := by omega, cm := ?_, bbm := by omega, ne := by omega, nm := ?_, pm := hsrt, so := ?_, ol := ?_, bo := by omega, fl := Ho2.out, md := ?_, ap := Ho5.out, bw := hbW3.alloc hbW3.size _ }⟩
    · exact Blk.made rfl _ _
    · rw [Below.heap_alloc _ _ _ (Nat.lt_of_lt_of_le hbq hb13.size), hb13.block bq hbq]
      exact Hq2.out
    · exact (om_below (om_below (w := W.drew) HM.out Hb1.out hltm) hb13 (Nat.lt_of_lt_of_le hltm hW1)).alloc _
    · rw [show (ss.mergeSort (fun x y => decide (x ≤ y))).length = ss.length from List.length_mergeSort _]
      refine ⟨by simp, ?_⟩
      rcases Hr2.out.2 with h | ⟨g, cap, cur, q1, q2, q3, q4⟩
      · exact Or.inl h
      · refine Or.inr ⟨g, cap, cur, q1, by omega, ?_, q4⟩
        have hg : g < w2.heap.size := (Array.getElem?_eq_some_iff.1 q3).1
        rw [Below.heap_alloc _ _ _ (Nat.lt_of_lt_of_le hg Hb3.out.size), Hb3.out.block g hg]
        exact q3
    · have := List.pairwise_mergeSort (le := fun x y : List UInt8 => decide (x ≤ y)) (fun a b c h1 h2 => by simp at *; exact List.le_trans h1 h2) (fun a b => by simp; exact List.le_total a b) ss
      exact this.imp (fun h => by simpa using h)
    · have h3 := Ho3.out.alloc (Obj.cells (agCells bq (w.heap.size + 1) (.slice none 0 0) (.slice none 0 0) (.slice na ss.length nk) (.slice none 0 0) (.slice (some ⟨go, 0, none⟩) c.d.toNat c.d.toNat) (Ag.new c D (ss.mergeSort (fun x y => decide (x ≤ y))))) 138)
      refine ⟨h3.1, ?_⟩
      rcases h3.2 with ⟨h, _⟩ | ⟨g, cap, cur, q1, q2, q3⟩
      · cases h
      · exact Or.inr ⟨g, cap, cur, q1, by omega, q3⟩
    · exact Ho4.out.keep (fun g cur t hb _ => hb.alloc _)
end Go.Proofs.YtojpjaifhjigfaaGreatDoor
