/- maps.Clone, judge, newLasting, newBreakers, newAgent and Open of an empty log: a new agent, in new memory. -/
import Derived.Test.YtkdmmpbpjmpinaaDoorIsConfig
import Derived.Test.YtkdmmpbpjmpinaaDoorNamesWalk
import Derived.Shelf.SlMaps.Clone
import Derived.Laws.EntriesVeiled
import Derived.Deep.QuietTactic
import Derived.Deep.RegionHeld3
namespace Go.Proofs.YtkdmmpbpjmpinaaDoor
open Go.RowKit Go.Maps

set_option maxRecDepth 100000 in
set_option maxHeartbeats 400000 in
theorem clone_some (b : Nat) (es : Array MapEntry) (clock : Nat) (w : World) (hb : w.heap[b]? = some (.map es clock)) :
    Calls Tryd.prog 38 #[.map (some b)] w fun e w' => e = .returned (.map (some w.heap.size)) ∧ w' = w.alloc (.map es clock) := by
  have hq := fun w => run_eql_map_nil (P := Tryd.prog) w 27 _ _ (some b) Tryd.underlying27
  go_enter Tryd.func38, Tryd.ntmps38
  go_wp2
  rw [run_callFunc_extern Tryd.func44 (by kernel_rfl) (by kernel_rfl) (by kernel_rfl) (e := Extern.MapsClone.clone) (by kernel_rfl), run_maps_clone_sl w 27 hb]
  simp only [Result.andThen]
  rw [Oper.upon_value]
  go_wp2
  rw [run_typeAssert_map_sl _ 27 20 _ _ _ Tryd.underlying27]
  simp only [Result.andThen]
  rw [Oper.upon_value]
  go_wp2
  go_ret
  exact ⟨rfl, rfl⟩

set_option maxHeartbeats 400000 in
theorem judge_any (l : Int) (t : Nat) (w : World) : Calls Tryd.prog 45 #[.int .i64 l, .float .f64 t] w fun e w' => ∃ fn cap, e = .returned (.func fn #[] cap) ∧ Below w.heap.size w w' := by
  have hmf : ∀ (fn : Fn) (first cap : Array Value) (w : World), (Instr.makeFunc fn first cap).run Tryd.prog w = .ok (.func fn first cap) w := fun _ _ _ _ => rfl
  go_enter Tryd.func45, Tryd.ntmps45
  go_wp2
  go_ret
  exact ⟨_, _, rfl, ((Below.refl _ _).alloc (Nat.le_refl _) _).alloc (by simp) _⟩

set_option maxHeartbeats 400000 in
theorem newLasting_any (w : World) : Calls Tryd.prog 39 #[] w fun e w' => ∃ b, e = .returned (.agg #[.slice none 0 0, .map (some b)]) ∧ Below w.heap.size w w' := by
  have hmm := @run_makeMap Tryd.prog
  go_enter Tryd.func39, Tryd.ntmps39
  go_wp2
  exact bodyPost_ret (v := .agg #[.slice none 0 0, .map (some (w.heap.size + 1))]) (by simp [results, Tryd.results39, go_sem]) rfl ⟨_, rfl, ((Below.refl _ _).alloc (Nat.le_refl _) _).alloc (by simp) _⟩

theorem infoBreaker : (Tryd.prog.info? 120).map (fun i => (i.zero, i.size, i.bytes)) = some (some (.agg #[.nilFunc]), 1, 8) := by kernel_rfl

set_option maxRecDepth 100000 in
set_option maxHeartbeats 400000 in
theorem newBreakers_any (c : Cfg) (m : Option Nat) (w : World) (h0 : 1 ≤ c.d) (h1 : c.d ≤ 4) : Calls Tryd.prog 40 #[c.val m] w fun e w' => ∃ a n k, e = .returned (.slice a n k) ∧ Below w.heap.size w w' := by
  obtain ⟨i0, hi, hz0, hz1, hz2⟩ := info_parts infoBreaker
  obtain ⟨d, hd⟩ : ∃ d : Nat, c.d = d := ⟨c.d.toNat, by omega⟩
  have hd4 : d ≤ 4 := by omega
  go_enter Tryd.func40, Tryd.ntmps40
  go_wp2_with (first
    | (at_make; refine wpList_make_full _ rfl _ _ 106 rfl w.heap.size 120 i0 (.agg #[.nilFunc]) 1 Tryd.underlying106 hi hz0 hz1 _ _ _ _ d rfl rfl rfl rfl (by rw [hz2]; omega) (by unfold maxLen; omega) (by simp) ?_; intro w1 hrow hg1)
    | fail)
  have hb0 : Below (w.heap.size + 1) (w.alloc (Obj.cells (c.cells m) 30)) w1 := (Below.refl _ _).grown hg1 (by simp) (fun j hj => by cases hj)
  have hbW : Below w.heap.size w w1 := ((Below.refl _ _).alloc (Nat.le_refl _) _).trans (hb0.mono (by omega))
  obtain ⟨cur, hblk, hcs⟩ : ∃ cur, Blk w1 (w.heap.size + 1) cur 120 ∧ cur.size = d := by
    rcases hrow.2 with ⟨h, _⟩ | ⟨g, cap, cur, h, _, hb, _, _, hs, _⟩
    · cases h
    · simp at h
      obtain ⟨rfl, rfl⟩ := h
      exact ⟨cur, hb, by simpa using hs⟩
  have hc1 : Blk w1 w.heap.size (c.cells m) 30 := (Blk.new w _ _).below hb0 (by omega)
  have HB := hide hbW
  have HK := hide hblk
  have HC := hide hc1
  clear hbW hblk hc1 hb0 hrow hg1
  go_loopw [10] (fun i wr => ∃ k : Nat, k ≤ d ∧ i = .int .i64 k ∧ (∃ cur, Blk wr (w.heap.size + 1) cur 120 ∧ cur.size = d) ∧ Blk wr w.heap.size (c.cells m) 30 ∧ Below w.heap.size w wr) (fun i _ => d - (intOf i).toNat)
  case atStart => exact ⟨0, by omega, rfl, ⟨cur, HK.out, hcs⟩, HC.out, HB.out⟩
  case round =>
    obtain ⟨k, hk, rfl, ⟨cur', hblk, hcs'⟩, hcb, hnx⟩ := hrel
    have Hblk := hide hblk
    have Hcb := hide hcb
    have Hnx := hide hnx
    clear hblk hcb hnx
    by_cases hlt : k < d
    · have hltI : (k : Int) < d := by omega
      have hc8 : wr.cell? ⟨w.heap.size, 8, none⟩ = some (.int .i64 c.le) := Hcb.out.cell 8
      have hc9 : wr.cell? ⟨w.heap.size, 9, none⟩ = some (.float .f64 c.th) := Hcb.out.cell 9
      go_wp2_with fail
      refine (judge_any _ _ _).mono ?_
      rintro e w2 ⟨fn, cap, rfl, hb2⟩
      have Hb2 := hide hb2
      have hck : w2.cell? ⟨w.heap.size + 1, k, none⟩ = some (cur'[k]'(by omega)) := by
        rw [(Hblk.out.below hb2 Hblk.out.lt).cell k]; exact Array.getElem?_eq_getElem _
      have hfk : w2.frozen? ⟨w.heap.size + 1, k, none⟩ = false := (Hblk.out.below hb2 Hblk.out.lt).frozen k
      clear hb2
      go_wp2_with fail
      go_roundw
      case rel =>
        have hl2 : w.heap.size ≤ wr.heap.size := Hnx.out.size
        refine ⟨k + 1, by omega, by go_num, ⟨_, (Hblk.out.below Hb2.out Hblk.out.lt).set k _, by simpa using hcs'⟩, (Hcb.out.below Hb2.out Hcb.out.lt).other _ _ (by simp), ?_⟩
        exact (Hnx.out.trans (Hb2.out.mono hl2)).setCell (by simp) _
      case measure => simp [intOf]; omega
    · go_wp2_with fail
      go_ret
      exact ⟨_, _, _, rfl, Hnx.out⟩

set_option maxRecDepth 100000 in
set_option maxHeartbeats 400000 in
theorem newAgent_any (c : Cfg) (b n : Nat) (D : DataW Unit) (w : World) (h0 : 1 ≤ c.d) (h1 : c.d ≤ 4) (hown : OM w b n D) : Calls Tryd.prog 22 #[c.val (some b)] w fun e w' => ∃ g, e = .returned (.pointer (some ⟨g, 0, none⟩)) ∧ Below w.heap.size w w' := by
  have HO := hide hown
  clear hown
  go_enter Tryd.func22, Tryd.ntmps22
  go_wp2_with fail
  obtain ⟨es, clock, hb0, _⟩ := HO.out.alloc (.cells (c.cells (some b)) 30)
  refine (clone_some b es clock _ hb0).mono ?_
  rintro e w' ⟨rfl, rfl⟩
  clear hb0
  go_wp2_with fail
  generalize hW : World.alloc (World.alloc w _) (Obj.map es clock) = W
  have hB : Below w.heap.size w W := by rw [← hW]; exact ((Below.refl _ _).alloc (Nat.le_refl _) _).alloc (by simp) _
  have hK : Blk W w.heap.size (c.cells (some (w.heap.size + 1))) 30 := by rw [← hW]; exact (Blk.new w _ _).alloc _
  have hlt : w.heap.size < W.heap.size := hK.lt
  have e0 := hK.cell 0
  have e1 := hK.cell 1
  have e2 := hK.cell 2
  have e3 := hK.cell 3
  have e4 := hK.cell 4
  have e5 := hK.cell 5
  have e6 := hK.cell 6
  have e7 := hK.cell 7
  have e8 := hK.cell 8
  have e9 := hK.cell 9
  have e10 := hK.cell 10
  simp at e0 e1 e2 e3 e4 e5 e6 e7 e8 e9 e10
  have HB := hide hB
  have HK := hide hK
  clear hB hK hW
  go_region_held3 (fun w' => w'.cell? ⟨w.heap.size, 0, none⟩ = some (.int .i64 c.d) ∧ w'.cell? ⟨w.heap.size, 1, none⟩ = some (.map (some (w.heap.size + 1))) ∧ w'.cell? ⟨w.heap.size, 2, none⟩ = some (.int .i64 c.q) ∧ w'.cell? ⟨w.heap.size, 3, none⟩ = some (.int .i64 c.at') ∧ w'.cell? ⟨w.heap.size, 4, none⟩ = some (.int .i64 c.ba) ∧ w'.cell? ⟨w.heap.size, 5, none⟩ = some (.int .i64 c.ca) ∧ w'.cell? ⟨w.heap.size, 6, none⟩ = some (.int .i64 c.ti) ∧ w'.cell? ⟨w.heap.size, 7, none⟩ = some (.int .i64 c.wi) ∧ w'.cell? ⟨w.heap.size, 8, none⟩ = some (.int .i64 c.le) ∧ w'.cell? ⟨w.heap.size, 9, none⟩ = some (.float .f64 c.th) ∧ w'.cell? ⟨w.heap.size, 10, none⟩ = some (.int .i64 c.op)) (go_keep)
    (first
      | (go_at_call 39; refine (newLasting_any _).mono ?_; rintro e w1 ⟨bm, rfl, hb1⟩; have hc1 := fun o => hb1.cell (p := ⟨w.heap.size, o, none⟩) hlt; have Hb1 := hide hb1; have hz1 : W.heap.size ≤ w1.heap.size := hb1.size; clear hb1)
      | (go_at_call 40; refine (newBreakers_any c (some (w.heap.size + 1)) _ h0 h1).mono ?_; rintro e w2 ⟨ra, rn, rk, rfl, hb2⟩; have hc2 := fun o => hb2.cell (p := ⟨w.heap.size, o, none⟩) (Nat.lt_of_lt_of_le hlt hz1); have Hb2 := hide hb2; clear hb2))
  go_wp2_with fail
  go_ret
  have hb3 : Below w.heap.size w w2 := (HB.out.drew.trans (Hb1.out.mono (Nat.le_of_lt hlt))).trans (Hb2.out.mono (Nat.le_trans (Nat.le_of_lt hlt) hz1))
  exact ⟨_, rfl, hb3.alloc hb3.size _⟩

/-- Open of an empty log. -/
theorem open_bad (A : Nat → Addr) (c : Cfg) (m : Option Nat) (D : DataW Unit) (w : World) (hS : Sents.Holds w 121 0 11 A) (h : MapAt w m D) (hg : ¬ GoodC c D) :
    Calls Tryd.prog 12 #[c.val m, .string ⟨#[]⟩] w fun e w' => e = .returned (.tuple #[.pointer none, ev A 0]) ∧ Below w.heap.size w w' := by
  have H := hide h
  have HS := hide hS
  clear h hS
  go_enter Tryd.func12, Tryd.ntmps12
  go_wp2_with fail
  refine (isConfig_any c m D _ (H.out.alloc _)).mono ?_
  rintro e w1 ⟨r, rfl, hr, hb1⟩
  have hr' : r = false := by cases r with | false => rfl | true => exact absurd (hr.1 rfl) hg
  subst hr'
  clear hr hg
  have hlt0 : 0 < w.heap.size := by have := World.block_lt_of_cell? w _ (HS.out.cell 0 (by omega)); omega
  have hB1 : Below w.heap.size w w1 := ((Below.refl _ _).alloc (Nat.le_refl _) _).trans (hb1.mono (by simp))
  have h0 : w1.cell? ⟨0, 0, none⟩ = some (ev A 0) := by rw [hB1.cell (p := ⟨0, 0, none⟩) hlt0]; exact HS.out.cell 0 (by omega)
  have HB1 := hide hB1
  clear hb1 hB1
  go_wp2_with fail
  go_quiet (fail)
  go_wp2_with fail
  go_ret2
  exact ⟨rfl, below_drewN HB1.out _⟩

theorem open_good (c : Cfg) (m : Option Nat) (D : DataW Unit) (w : World) (h : MapAt w m D) (hg : GoodC c D) :
    Calls Tryd.prog 12 #[c.val m, .string ⟨#[]⟩] w fun e w' => ∃ g, e = .returned (.tuple #[.pointer (some ⟨g, 0, none⟩), .nilIface]) ∧ Below w.heap.size w w' := by
  have H := hide h
  have hd := Cfg.num_d hg.1
  obtain ⟨b, n, rfl, hown⟩ : ∃ b n, m = some b ∧ OM w b n D := by
    rcases h with ⟨_, rfl⟩ | ⟨b, n, h1, h2, _⟩
    · exact absurd hg.2.1.1.1 (by simp [Maps.size])
    · exact ⟨b, n, h1, h2⟩
  have HO := hide hown
  have HG := hide hg
  clear h hown hg
  go_enter Tryd.func12, Tryd.ntmps12
  go_wp2_with fail
  refine (isConfig_any c (some b) D _ (H.out.alloc _)).mono ?_
  rintro e w1 ⟨r, rfl, hr, hb1⟩
  obtain rfl : r = true := hr.2 HG.out
  clear hr
  have Hb1 := hide hb1
  obtain ⟨hc1, _⟩ := bcell hb1
  simp only [World.size_alloc] at hc1
  clear hb1
  go_wp2_with fail
  refine (newAgent_any c b n D _ hd.1 hd.2 (om_below (HO.out.alloc _) Hb1.out (HO.out.alloc _).lt)).mono ?_
  rintro e w2 ⟨g, rfl, hb2⟩
  have Hb2 : Hid (Below w.heap.size w w2) := (((Below.refl w.heap.size w).alloc (Nat.le_refl _) _).trans (Hb1.out.mono (by simp))).trans (hb2.mono (by have := Hb1.out.size; simp at this; omega))
  clear hb2 hc1
  go_wp2_with fail
  go_ret2
  exact ⟨g, rfl, Hb2.out⟩
end Go.Proofs.YtkdmmpbpjmpinaaDoor
