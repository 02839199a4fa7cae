/- (*World).opened: a configuration is opened by the program and by the document's answer. -/
import Derived.Test.YtojpjaifhjigfaaGreatDoorMSentupto23
import Derived.Test.YtojpjaifhjigfaaGreatDoorMSentupto02
namespace Go.Proofs.YtojpjaifhjigfaaGreatDoor
open Go.RowKit Go.Maps
attribute [local go_sem] run_store_float

theorem run_clear_map {P : Program} {w : World} {t k e : TypeId} {r : Nat} {es : Array MapEntry} {clock : Nat} (hm : P.underlying t = some (.map k e)) (hb : w.heap[r]? = some (.map es clock)) (ty : TypeId) :
    (Builtin.clear_ #[t] ty #[.map (some r)]).run P w = .ok (.tuple #[]) (ChangeMaps.setBlock w r (.map #[] clock)) := by
  simp [Builtin.clear_, run_underlying hm, MapKept.run_getObj_map hb, MapKept.run_setObj_map _ hb, Result.andThen]
  rfl
theorem run_clear_nil {P : Program} {w : World} {t k e : TypeId} (hm : P.underlying t = some (.map k e)) (ty : TypeId) :
    (Builtin.clear_ #[t] ty #[.map none]).run P w = .ok (.tuple #[]) w := by
  simp [Builtin.clear_, run_underlying hm]

theorem below_setBlock {w : World} {r : Nat} {es : Array MapEntry} {clock : Nat} (hb : w.heap[r]? = some (.map es clock)) (o : Obj) : Below r w (ChangeMaps.setBlock w r o) :=
  ⟨rfl, rfl, rfl, by simp [ChangeMaps.setBlock], fun k hk => ChangeMaps.heap_setBlock_other hb o (by omega)⟩
/-- What pick makes of a number. -/
def PickIs (z : Int) (n : Nat) : Prop := ∀ w : World, Calls Tryz.prog 40 #[.int .i64 z, .int .i64 2] w fun e w' => e = .returned (.int .i64 n) ∧ w' = w

set_option maxRecDepth 100000 in
set_option maxHeartbeats 4000000 in
theorem opened_bad_some (z : Int) (n gw : Nat) (hn : n < 2) (hpk : PickIs z n) (A : Nat → Addr) (c : Cfg) (b nb : Nat) (D : DataW Unit) (w : World) (hS : Sents.Holds w 260 gl 11 A) (hown : OM w b nb D) (hnb : nb ≤ big) (hg : ¬ GoodC c D)
    (hcfg : w.cell? ⟨gw, n * 11, none⟩ = some (.int .i64 c.d) ∧ w.cell? ⟨gw, n * 11 + 1, none⟩ = some (.map (some b)) ∧ w.cell? ⟨gw, n * 11 + 2, none⟩ = some (.int .i64 c.q) ∧ w.cell? ⟨gw, n * 11 + 3, none⟩ = some (.int .i64 c.at') ∧ w.cell? ⟨gw, n * 11 + 4, none⟩ = some (.int .i64 c.ba) ∧ w.cell? ⟨gw, n * 11 + 5, none⟩ = some (.int .i64 c.ca) ∧ w.cell? ⟨gw, n * 11 + 6, none⟩ = some (.int .i64 c.ti) ∧ w.cell? ⟨gw, n * 11 + 7, none⟩ = some (.int .i64 c.wi) ∧ w.cell? ⟨gw, n * 11 + 8, none⟩ = some (.int .i64 c.le) ∧ w.cell? ⟨gw, n * 11 + 9, none⟩ = some (.float .f64 c.th) ∧ w.cell? ⟨gw, n * 11 + 10, none⟩ = some (.int .i64 c.op)) :
    Calls Tryz.prog 16 #[.pointer (some ⟨gw, 0, none⟩), .int .i64 z] w fun e w' => e = .returned (.bool true) ∧ Below w.heap.size w w' := by
  obtain ⟨e0, e1, e2, e3, e4, e5, e6, e7, e8, e9, e10⟩ := hcfg
  have HS := hide hS
  have HPk := hide hpk
  have HO := hide hown
  have HG := hide hg
  have hgw := World.block_lt_of_cell? w _ e0
  have hbl := hown.lt
  have hnI : (n : Int) < 2 := by omega
  have hn0 : (0 : Int) ≤ (n : Int) := by omega
  have hnn := fun w => run_neq_map_nil (P := Tryz.prog) w 22 9 3 (some b) Tryz.underlying22
  have hmm := @run_makeMap Tryz.prog
  clear hS hown hg hpk
  go_enter Tryz.func16, Tryz.ntmps16
  go_upto_region 1 with fail
  go_cut [5] (fun s5 wx => s5 = .pointer (some ⟨w.heap.size, 0, none⟩) ∧ wx = (w.alloc (.cells (c.cells (some b)) 25)).drew)
  case first =>
    go_region_held3 (fun w' => w'.cell? ⟨gw, n * 11, none⟩ = some (.int .i64 c.d) ∧ w'.cell? ⟨gw, n * 11 + 1, none⟩ = some (.map (some b)) ∧ w'.cell? ⟨gw, n * 11 + 2, none⟩ = some (.int .i64 c.q) ∧ w'.cell? ⟨gw, n * 11 + 3, none⟩ = some (.int .i64 c.at') ∧ w'.cell? ⟨gw, n * 11 + 4, none⟩ = some (.int .i64 c.ba) ∧ w'.cell? ⟨gw, n * 11 + 5, none⟩ = some (.int .i64 c.ca) ∧ w'.cell? ⟨gw, n * 11 + 6, none⟩ = some (.int .i64 c.ti) ∧ w'.cell? ⟨gw, n * 11 + 7, none⟩ = some (.int .i64 c.wi) ∧ w'.cell? ⟨gw, n * 11 + 8, none⟩ = some (.int .i64 c.le) ∧ w'.cell? ⟨gw, n * 11 + 9, none⟩ = some (.float .f64 c.th) ∧ w'.cell? ⟨gw, n * 11 + 10, none⟩ = some (.int .i64 c.op)) (go_keep)
      (first
        | (go_at_call 40; refine (HPk.out _).mono ?_; rintro e w1 ⟨rfl, rfl⟩))
    all_goals (go_wp2_with fail; go_meet; exact ⟨rfl, rfl⟩)
  case rest =>
  obtain ⟨rfl, hwc⟩ := hcut
  have hK0 : Blk wc w.heap.size (c.cells (some b)) 25 := by rw [hwc]; exact Blk.new w _ _
  have hz0 : wc.heap.size = w.heap.size + 1 := by rw [hwc]; simp
  have hB0 : Below w.heap.size w wc := by rw [hwc]; exact ((Below.refl _ _).alloc (Nat.le_refl _) _).drew
  clear hwc e0 e1 e2 e3 e4 e5 e6 e7 e8 e9 e10
  obtain ⟨e0, e1, e2, e3, e4, e5, e6, e7, e8, e9, e10⟩ : wc.cell? ⟨w.heap.size, 0, none⟩ = some (.int .i64 c.d) ∧ wc.cell? ⟨w.heap.size, 1, none⟩ = some (.map (some b)) ∧ wc.cell? ⟨w.heap.size, 2, none⟩ = some (.int .i64 c.q) ∧ wc.cell? ⟨w.heap.size, 3, none⟩ = some (.int .i64 c.at') ∧ wc.cell? ⟨w.heap.size, 4, none⟩ = some (.int .i64 c.ba) ∧ wc.cell? ⟨w.heap.size, 5, none⟩ = some (.int .i64 c.ca) ∧ wc.cell? ⟨w.heap.size, 6, none⟩ = some (.int .i64 c.ti) ∧ wc.cell? ⟨w.heap.size, 7, none⟩ = some (.int .i64 c.wi) ∧ wc.cell? ⟨w.heap.size, 8, none⟩ = some (.int .i64 c.le) ∧ wc.cell? ⟨w.heap.size, 9, none⟩ = some (.float .f64 c.th) ∧ wc.cell? ⟨w.heap.size, 10, none⟩ = some (.int .i64 c.op) := ⟨hK0.cell 0, hK0.cell 1, hK0.cell 2, hK0.cell 3, hK0.cell 4, hK0.cell 5, hK0.cell 6, hK0.cell 7, hK0.cell 8, hK0.cell 9, hK0.cell 10⟩
  have HK0 := hide hK0
  have HB0 := hide hB0
  have Hz0 := hide hz0
  have hlt0 : w.heap.size < wc.heap.size := hK0.lt
  clear hK0 hB0 hz0
  have hownc : OM wc b nb D := om_below HO.out HB0.out hbl
  have hblc : b < wc.heap.size := hownc.lt
  have hsize : Maps.size D ≤ nb := hownc.size_le
  go_wp2_with (first
    | (at_range; refine wpList_range_own _ rfl _ 22 rfl 9 3 lawS Tryz.underlying22 _ b nb _ rfl ((hownc.alloc _).alloc _) ?_; intro w0 hrg0 hg0 hs0)
    | fail)
  try go_frame
  try simp only [World.size_alloc] at hrg0 ⊢
  generalize hN : wc.heap.size = N at *
  have HNe := hide hN
  have hw0K : Blk w0 N (c.cells (some (N + 1))) 25 := by
    have h1 := ((Blk.made hN (c.cells (some (N + 1))) 25).alloc (.map #[] 0)).grown hg0 (by simp)
    exact h1
  have hw0M : OM w0 (N + 1) 0 (.map []) := (om_new (by simp [hN])).kept hg0 (by simp)
  have hw0B : Below N wc w0 := (((Below.refl _ _).alloc (by omega) _).alloc (by simp; omega) _).grown hg0 (by simp; omega) (fun j hj => by cases hj)
  have HK := hide hw0K
  have HM := hide hw0M
  have HB := hide hw0B
  clear hw0K hw0M hw0B hg0 hs0 hN e0 e1 e2 e3 e4 e5 e6 e7 e8 e9 e10
  go_loopw [7] (fun _ wr => ∃ (left : Lit → Bool) (cnt : Nat) (Dout : DataW Unit), RG wr b (N + 1 + 1) nb D left cnt ∧ cnt ≤ Maps.size D ∧ OM wr (N + 1) (Maps.size D - cnt) Dout ∧ Agree Dout D left ∧
      Blk wr N (c.cells (some (N + 1))) 25 ∧ Below N wc wr) (fun _ wr => wr.rangeLeft b (N + 1 + 1))
  case atStart => exact ⟨_, _, .map [], hrg0, Nat.le_refl _, HM.out.mono (Nat.zero_le _), agree_start D, HK.out, HB.out⟩
  case round =>
    obtain ⟨left, cnt, Dout, hrg, hcs, hout, hA, hK, hnx⟩ := hrel
    have Hout := hide hout
    have HA := hide hA
    have HK1 := hide hK
    have Hnx := hide hnx
    have hNw : N < wr.heap.size := hK.lt
    have e1 : wr.cell? ⟨N, 1, none⟩ = some (.map (some (N + 1))) := hK.cell 1
    clear hout hA hK hnx
    go_wp2_with (first
      | (at_next; refine wpList_next_ranges _ rfl _ rfl 9 lawS (plainElem Tryz.prog 3) encStr (Value.int .i64) invK invV b (N + 1 + 1) nb _ _ _ rfl hrg ?_ ?_)
      | fail)
    · intro hc0 hl0
      have hE : Dout = D := agree_end HA.out hl0 (Hout.out.canon lawS) (HO.out.canon lawS)
      subst hE
      clear hl0 e1
      have hNw' : N ≤ wr.heap.size := by omega
      have hwN : w.heap.size < N := by have := HNe.out; omega
      have HBw : Hid (Below w.heap.size w wr) := HB0.out.trans (Hnx.out.mono (by omega))
      have HKc : Hid (Blk wr w.heap.size (c.cells (some b)) 25) := HK0.out.below Hnx.out hwN
      have HMo : Hid (OM wr (N + 1) big Dout) := Hout.out.mono (by unfold big at *; omega)
      have HMb : Hid (OM wr b nb Dout) := om_below hownc Hnx.out (by have := HNe.out; omega)
      clear Hout hownc hrg hcs hrg0
      go_wp2_with (first
        | (refine wpList_load_mid rfl 25 _ rfl N 0 rfl (c.cells (some (N + 1))).toList _ (HK1.out.range 0 _ rfl) Tryz.underlying25 rfl infoConfig ?_)
        | fail)
      refine (open_bad A c (some (N + 1)) Dout _ (HS.out.below HBw.out) (Or.inr ⟨N + 1, big, rfl, HMo.out, Nat.le_refl _⟩) HG.out).mono ?_
      rintro e w3 ⟨rfl, hb3⟩
      have HBw3 : Hid (Below w.heap.size w w3) := HBw.out.trans (hb3.mono HBw.out.size)
      have HKc3 : Hid (Blk w3 w.heap.size (c.cells (some b)) 25) := HKc.out.below hb3 HKc.out.lt
      have HKo3 : Hid (Blk w3 N (c.cells (some (N + 1))) 25) := HK1.out.below hb3 HK1.out.lt
      have HMo3 : Hid (OM w3 (N + 1) big Dout) := om_below HMo.out hb3 HMo.out.lt
      have HMb3 : Hid (OM w3 b nb Dout) := om_below HMb.out hb3 HMb.out.lt
      have hz3 : wr.heap.size ≤ w3.heap.size := hb3.size
      clear hb3
      go_wp2_with (first
        | (refine wpList_load_mid rfl 25 _ rfl w.heap.size 0 rfl (c.cells (some b)).toList _ (HKc3.out.range 0 _ rfl) Tryz.underlying25 rfl infoConfig ?_)
        | fail)
      refine (good_any c (some b) Dout _ (Or.inr ⟨b, nb, rfl, HMb3.out, hnb⟩)).mono ?_
      rintro e w4 ⟨⟨r4, rfl, hr4⟩, hb4⟩
      have hr4' : r4 = false := by cases r4 with | false => rfl | true => exact absurd (hr4.1 rfl) HG.out
      subst hr4'
      clear hr4
      have HBw4 : Hid (Below w.heap.size w w4) := HBw3.out.trans (hb4.mono HBw3.out.size)
      have HKc4 : Hid (Blk w4 w.heap.size (c.cells (some b)) 25) := HKc3.out.below hb4 HKc3.out.lt
      have HKo4 : Hid (Blk w4 N (c.cells (some (N + 1))) 25) := HKo3.out.below hb4 HKo3.out.lt
      have HMo4 : Hid (OM w4 (N + 1) big Dout) := om_below HMo3.out hb4 HMo3.out.lt
      have HMb4 : Hid (OM w4 b nb Dout) := om_below HMb3.out hb4 HMb3.out.lt
      have k41 : w4.cell? ⟨N, 1, none⟩ = some (.map (some (N + 1))) := HKo4.out.cell 1
      have hz4 : w3.heap.size ≤ w4.heap.size := hb4.size
      clear hb4
      go_wp2_with (first
        | (refine wpList_load_mid rfl 25 _ rfl w.heap.size 0 rfl (c.cells (some b)).toList _ (HKc4.out.range 0 _ rfl) Tryz.underlying25 rfl infoConfig ?_)
        | fail)
      refine (same_some c (N + 1) b big nb Dout _ HMo4.out HMb4.out).mono ?_
      rintro e w5 ⟨rfl, hb5⟩
      have HBw5 : Hid (Below w.heap.size w w5) := HBw4.out.trans (hb5.mono HBw4.out.size)
      have HKc5 : Hid (Blk w5 w.heap.size (c.cells (some b)) 25) := HKc4.out.below hb5 HKc4.out.lt
      have HKo5 : Hid (Blk w5 N (c.cells (some (N + 1))) 25) := HKo4.out.below hb5 HKo4.out.lt
      have HMb5 : Hid (OM w5 b nb Dout) := om_below HMb4.out hb5 HMb4.out.lt
      obtain ⟨es5, clock5, hes5, _⟩ := om_below HMo4.out hb5 HMo4.out.lt
      have k51 : w5.cell? ⟨N, 1, none⟩ = some (.map (some (N + 1))) := HKo5.out.cell 1
      have hclr := fun ty => run_clear_map (P := Tryz.prog) Tryz.underlying22 hes5 ty
      have hz5 : w4.heap.size ≤ w5.heap.size := hb5.size
      have hb6 : Below (N + 1) w5 (ChangeMaps.setBlock w5 (N + 1) (.map #[] clock5)) := below_setBlock hes5 _
      generalize hw6 : ChangeMaps.setBlock w5 (N + 1) (.map #[] clock5) = w6 at *
      have HBw6 : Hid (Below w.heap.size w w6) := HBw5.out.trans (hb6.mono (by omega))
      have hz6 : w6.heap.size = w5.heap.size := by rw [← hw6]; simp [ChangeMaps.setBlock]
      have hoth6 : ∀ k, k ≠ N + 1 → w6.heap[k]? = w5.heap[k]? := by rw [← hw6]; exact fun k hk => ChangeMaps.heap_setBlock_other hes5 _ hk
      have HZ6 := hide hz6
      have HO6 := hide hoth6
      clear hw6 hb5 hb6 hes5 k41 hz6 hoth6
      have z0 := HS.out.cell 0 (by omega)
      simp only [gl, List.getD_cons_zero] at z0
      have hlt0 := World.block_lt_of_cell? w _ z0
      have g0 : w6.cell? ⟨_, 0, none⟩ = some (ev A 0) := (HBw6.out.cell (p := ⟨_, 0, none⟩) hlt0).trans z0
      clear z0
      have heq := fun w => eql_same A 0 w
      go_wp2_with fail
      go_ret
      exact ⟨rfl, HBw6.out⟩
    · intro x q kl yd yp w2 cnt2 hkey hlk hv hat hrg2 hlt hg2 hs2 hen
      obtain ⟨x', ex, rfl, hxl⟩ := Maps.keyOf_str Tryz.underlying9 hkey
      obtain rfl : x = x' := encStr_inj ex
      obtain ⟨q', eq', ey, hwq⟩ := plainElem_int_inv Tryz.underlying3 hv
      obtain rfl : q = q' := by simpa using eq'
      obtain ⟨rfl, rfl⟩ : yd = .lit (.int .i64 q) ∧ yp = [] := by simpa using ey
      have hout1 : OM w2 (N + 1) (Maps.size D - cnt) Dout := Hout.out.kept hg2 (by simp)
      have HK2 : Hid (Blk w2 N (c.cells (some (N + 1))) 25) := HK1.out.grown hg2 (by simp; omega)
      have hN2 : N ≤ wc.heap.size := by rw [HNe.out]; exact Nat.le_refl _
      have HB2 : Hid (Below N wc w2) := Hnx.out.grown hg2 (by omega) (fun j hj => by cases hj; omega)
      have HA2 := hide (agree_step (kl := .string x) HA.out Hout.out.isMap trivial hat)
      have HMe : Hid (cnt2 < wr.rangeLeft b (N + 1 + 1)) := by rw [hrg.left_eq]; exact hlt
      have Hrg2 := hide hrg2
      have hc2 : cnt2 < cnt := hlt
      have hNw2 : N < w2.heap.size := HK2.out.lt
      have e1' : w2.cell? ⟨N, 1, none⟩ = some (.map (some (N + 1))) := HK2.out.cell 1
      clear hlk hv hat ex eq' ey hs2 hlt hg2 hrg2 e1
      go_wp2_with (first
        | (at_mapUpdate; refine wpList_mapUpdate_own _ rfl _ _ _ 22 rfl 9 3 lawS Tryz.underlying22 _ (N + 1) _ _ rfl hout1 (by unfold maxLen; unfold big at hnb; omega) _ _ _ rfl rfl hkey _ [] (plainElem_int Tryz.underlying3 hwq) ?_; intro w3 hout3 hg3; go_frame)
        | fail)
      have hrg3 := Hrg2.out.kept hg3 (by simp; omega) (by simp)
      have hN3 : Blk w3 N (c.cells (some (N + 1))) 25 := HK2.out.grown hg3 (by simp)
      have hB3 : Below N wc w3 := HB2.out.grown hg3 (by omega) (fun j hj => by cases hj; omega)
      go_roundw
      case rel => exact ⟨_, cnt2, _, hrg3, by omega, hout3.mono (by omega), HA2.out, hN3, hB3⟩
      case measure => rw [hrg3.left_eq]; exact HMe.out

set_option maxRecDepth 100000 in
set_option maxHeartbeats 4000000 in
theorem opened_bad_nil (z : Int) (n gw : Nat) (hn : n < 2) (hpk : PickIs z n) (A : Nat → Addr) (c : Cfg) (w : World) (hS : Sents.Holds w 260 gl 11 A)
    (hcfg : w.cell? ⟨gw, n * 11, none⟩ = some (.int .i64 c.d) ∧ w.cell? ⟨gw, n * 11 + 1, none⟩ = some (.map (none)) ∧ w.cell? ⟨gw, n * 11 + 2, none⟩ = some (.int .i64 c.q) ∧ w.cell? ⟨gw, n * 11 + 3, none⟩ = some (.int .i64 c.at') ∧ w.cell? ⟨gw, n * 11 + 4, none⟩ = some (.int .i64 c.ba) ∧ w.cell? ⟨gw, n * 11 + 5, none⟩ = some (.int .i64 c.ca) ∧ w.cell? ⟨gw, n * 11 + 6, none⟩ = some (.int .i64 c.ti) ∧ w.cell? ⟨gw, n * 11 + 7, none⟩ = some (.int .i64 c.wi) ∧ w.cell? ⟨gw, n * 11 + 8, none⟩ = some (.int .i64 c.le) ∧ w.cell? ⟨gw, n * 11 + 9, none⟩ = some (.float .f64 c.th) ∧ w.cell? ⟨gw, n * 11 + 10, none⟩ = some (.int .i64 c.op)) :
    Calls Tryz.prog 16 #[.pointer (some ⟨gw, 0, none⟩), .int .i64 z] w fun e w' => e = .returned (.bool true) ∧ Below w.heap.size w w' := by
  obtain ⟨e0, e1, e2, e3, e4, e5, e6, e7, e8, e9, e10⟩ := hcfg
  have HS := hide hS
  have HPk := hide hpk
  have HG : Hid (¬ GoodC c (.map [])) := fun h => absurd h.2.1.1.1 (by simp [Maps.size])
  have hgw := World.block_lt_of_cell? w _ e0
  have hnI : (n : Int) < 2 := by omega
  have hn0 : (0 : Int) ≤ (n : Int) := by omega
  have hnn := fun w => run_neq_map_nil (P := Tryz.prog) w 22 9 3 none Tryz.underlying22
  clear hS hpk
  go_enter Tryz.func16, Tryz.ntmps16
  go_upto_region 1 with fail
  go_cut [5] (fun s5 wx => s5 = .pointer (some ⟨w.heap.size, 0, none⟩) ∧ wx = (w.alloc (.cells (c.cells none) 25)).drew)
  case first =>
    go_region_held3 (fun w' => w'.cell? ⟨gw, n * 11, none⟩ = some (.int .i64 c.d) ∧ w'.cell? ⟨gw, n * 11 + 1, none⟩ = some (.map (none)) ∧ w'.cell? ⟨gw, n * 11 + 2, none⟩ = some (.int .i64 c.q) ∧ w'.cell? ⟨gw, n * 11 + 3, none⟩ = some (.int .i64 c.at') ∧ w'.cell? ⟨gw, n * 11 + 4, none⟩ = some (.int .i64 c.ba) ∧ w'.cell? ⟨gw, n * 11 + 5, none⟩ = some (.int .i64 c.ca) ∧ w'.cell? ⟨gw, n * 11 + 6, none⟩ = some (.int .i64 c.ti) ∧ w'.cell? ⟨gw, n * 11 + 7, none⟩ = some (.int .i64 c.wi) ∧ w'.cell? ⟨gw, n * 11 + 8, none⟩ = some (.int .i64 c.le) ∧ w'.cell? ⟨gw, n * 11 + 9, none⟩ = some (.float .f64 c.th) ∧ w'.cell? ⟨gw, n * 11 + 10, none⟩ = some (.int .i64 c.op)) (go_keep)
      (first
        | (go_at_call 40; refine (HPk.out _).mono ?_; rintro e w1 ⟨rfl, rfl⟩))
    all_goals (go_wp2_with fail; go_meet; exact ⟨rfl, rfl⟩)
  case rest =>
  obtain ⟨rfl, hwc⟩ := hcut
  have hK0 : Blk wc w.heap.size (c.cells none) 25 := by rw [hwc]; exact Blk.new w _ _
  have hz0 : wc.heap.size = w.heap.size + 1 := by rw [hwc]; simp
  have hB0 : Below w.heap.size w wc := by rw [hwc]; exact ((Below.refl _ _).alloc (Nat.le_refl _) _).drew
  clear hwc e0 e1 e2 e3 e4 e5 e6 e7 e8 e9 e10
  obtain ⟨e0, e1, e2, e3, e4, e5, e6, e7, e8, e9, e10⟩ : wc.cell? ⟨w.heap.size, 0, none⟩ = some (.int .i64 c.d) ∧ wc.cell? ⟨w.heap.size, 1, none⟩ = some (.map (none)) ∧ wc.cell? ⟨w.heap.size, 2, none⟩ = some (.int .i64 c.q) ∧ wc.cell? ⟨w.heap.size, 3, none⟩ = some (.int .i64 c.at') ∧ wc.cell? ⟨w.heap.size, 4, none⟩ = some (.int .i64 c.ba) ∧ wc.cell? ⟨w.heap.size, 5, none⟩ = some (.int .i64 c.ca) ∧ wc.cell? ⟨w.heap.size, 6, none⟩ = some (.int .i64 c.ti) ∧ wc.cell? ⟨w.heap.size, 7, none⟩ = some (.int .i64 c.wi) ∧ wc.cell? ⟨w.heap.size, 8, none⟩ = some (.int .i64 c.le) ∧ wc.cell? ⟨w.heap.size, 9, none⟩ = some (.float .f64 c.th) ∧ wc.cell? ⟨w.heap.size, 10, none⟩ = some (.int .i64 c.op) := ⟨hK0.cell 0, hK0.cell 1, hK0.cell 2, hK0.cell 3, hK0.cell 4, hK0.cell 5, hK0.cell 6, hK0.cell 7, hK0.cell 8, hK0.cell 9, hK0.cell 10⟩
  have HK0 := hide hK0
  have HB0 := hide hB0
  have hlt0 : w.heap.size < wc.heap.size := hK0.lt
  have hrg := fun cs => run_range_nilMap (P := Tryz.prog) (wc.alloc (.cells cs 25)) 22 9 3 Tryz.underlying22
  have hnx : ∀ cs ty, (Instr.next (.pointer (some ⟨(wc.alloc (.cells cs 25)).heap.size, 0, none⟩)) false ty).run Tryz.prog ((wc.alloc (.cells cs 25)).alloc (.mapIter none 0 #[] 0)) = _ := fun cs ty => run_next_nilMap _ ty 0 0 #[]
  simp only [World.size_alloc] at hrg hnx
  clear hK0 hB0 hz0
  go_wp2_with fail
  refine wp_loop_rounds 1 ?_
  rw [rounds_succ]
  go_wp2_with fail
  generalize hW : World.alloc (World.alloc wc _) (Obj.mapIter none 0 #[] 0) = wr
  have HKo : Hid (Blk wr wc.heap.size (c.cells none) 25) := by rw [← hW]; exact (Blk.new wc _ _).alloc _
  have hBr : Below wc.heap.size wc wr := by rw [← hW]; exact ((Below.refl _ _).alloc (Nat.le_refl _) _).alloc (by simp) _
  have HKc : Hid (Blk wr w.heap.size (c.cells none) 25) := HK0.out.below hBr hlt0
  have HBw : Hid (Below w.heap.size w wr) := HB0.out.trans (hBr.mono (by omega))
  clear hW hBr hrg hnx e0 e1 e2 e3 e4 e5 e6 e7 e8 e9 e10
  refine (open_bad A c none (.map []) _ (HS.out.below HBw.out) (Or.inl ⟨rfl, rfl⟩) HG.out).mono ?_
  rintro e w3 ⟨rfl, hb3⟩
  have HBw3 : Hid (Below w.heap.size w w3) := HBw.out.trans (hb3.mono HBw.out.size)
  have HKc3 : Hid (Blk w3 w.heap.size (c.cells none) 25) := HKc.out.below hb3 HKc.out.lt
  have HKo3 : Hid (Blk w3 wc.heap.size (c.cells none) 25) := HKo.out.below hb3 HKo.out.lt
  clear hb3
  go_wp2_with (first
    | (refine wpList_load_mid rfl 25 _ rfl w.heap.size 0 rfl (c.cells none).toList _ (HKc3.out.range 0 _ rfl) Tryz.underlying25 rfl infoConfig ?_)
    | fail)
  refine (good_any c none (.map []) _ (Or.inl ⟨rfl, rfl⟩)).mono ?_
  rintro e w4 ⟨⟨r4, rfl, hr4⟩, hb4⟩
  have hr4' : r4 = false := by cases r4 with | false => rfl | true => exact absurd (hr4.1 rfl) HG.out
  subst hr4'
  clear hr4
  have HBw4 : Hid (Below w.heap.size w w4) := HBw3.out.trans (hb4.mono HBw3.out.size)
  have HKc4 : Hid (Blk w4 w.heap.size (c.cells none) 25) := HKc3.out.below hb4 HKc3.out.lt
  have HKo4 : Hid (Blk w4 wc.heap.size (c.cells none) 25) := HKo3.out.below hb4 HKo3.out.lt
  have k41 : w4.cell? ⟨wc.heap.size, 1, none⟩ = some (.map none) := HKo4.out.cell 1
  clear hb4
  go_wp2_with (first
    | (refine wpList_load_mid rfl 25 _ rfl w.heap.size 0 rfl (c.cells none).toList _ (HKc4.out.range 0 _ rfl) Tryz.underlying25 rfl infoConfig ?_)
    | fail)
  refine (same_nil c _).mono ?_
  rintro e w5 ⟨rfl, hb5⟩
  have HBw5 : Hid (Below w.heap.size w w5) := HBw4.out.trans (hb5.mono HBw4.out.size)
  have HKo5 : Hid (Blk w5 wc.heap.size (c.cells none) 25) := HKo4.out.below hb5 HKo4.out.lt
  have k51 : w5.cell? ⟨wc.heap.size, 1, none⟩ = some (.map none) := HKo5.out.cell 1
  have hclr := fun ty => run_clear_nil (P := Tryz.prog) (w := w5) Tryz.underlying22 ty
  clear hb5 k41
  have z0 := HS.out.cell 0 (by omega)
  simp only [gl, List.getD_cons_zero] at z0
  have hltz := World.block_lt_of_cell? w _ z0
  have g0 : w5.cell? ⟨_, 0, none⟩ = some (ev A 0) := (HBw5.out.cell (p := ⟨_, 0, none⟩) hltz).trans z0
  clear z0
  have heq := fun w => eql_same A 0 w
  go_wp2_with fail
  go_ret
  exact ⟨rfl, HBw5.out⟩

theorem opened_bad (z : Int) (n gw : Nat) (hn : n < 2) (hpk : PickIs z n) (A : Nat → Addr) (c : Cfg) (m : Option Nat) (D : DataW Unit) (w : World) (hS : Sents.Holds w 260 gl 11 A) (h : MapAt w m D) (hg : ¬ GoodC c D)
    (hcfg : w.cell? ⟨gw, n * 11, none⟩ = some (.int .i64 c.d) ∧ w.cell? ⟨gw, n * 11 + 1, none⟩ = some (.map (m)) ∧ w.cell? ⟨gw, n * 11 + 2, none⟩ = some (.int .i64 c.q) ∧ w.cell? ⟨gw, n * 11 + 3, none⟩ = some (.int .i64 c.at') ∧ w.cell? ⟨gw, n * 11 + 4, none⟩ = some (.int .i64 c.ba) ∧ w.cell? ⟨gw, n * 11 + 5, none⟩ = some (.int .i64 c.ca) ∧ w.cell? ⟨gw, n * 11 + 6, none⟩ = some (.int .i64 c.ti) ∧ w.cell? ⟨gw, n * 11 + 7, none⟩ = some (.int .i64 c.wi) ∧ w.cell? ⟨gw, n * 11 + 8, none⟩ = some (.int .i64 c.le) ∧ w.cell? ⟨gw, n * 11 + 9, none⟩ = some (.float .f64 c.th) ∧ w.cell? ⟨gw, n * 11 + 10, none⟩ = some (.int .i64 c.op)) :
    Calls Tryz.prog 16 #[.pointer (some ⟨gw, 0, none⟩), .int .i64 z] w fun e w' => e = .returned (.bool true) ∧ Below w.heap.size w w' := by
  rcases h with ⟨rfl, rfl⟩ | ⟨b, nb, rfl, h2, h3⟩
  · exact opened_bad_nil z n gw hn hpk A c w hS hcfg
  · exact opened_bad_some z n gw hn hpk A c b nb D w hS h2 h3 hg hcfg
end Go.Proofs.YtojpjaifhjigfaaGreatDoor
