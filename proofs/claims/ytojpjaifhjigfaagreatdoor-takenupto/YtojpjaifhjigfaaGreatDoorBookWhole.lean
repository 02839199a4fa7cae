/- whole: every list and map that came out is as its owner wrote it. -/
import Derived.Test.YtojpjaifhjigfaaGreatDoorBookMap
namespace Go.Proofs.YtojpjaifhjigfaaGreatDoor
open Go.RowKit Go.Maps

theorem oneMap_at {t : Nat} {c : Int} (h : (oneMap t).atKey (.string callers) (.lit (.int .i64 0)) = .lit (.int .i64 c)) : c = -1000 - (t : Int) := by
  have e : DataW.lit (H := Unit) (.int .i64 (-1000 - (t : Int))) = .lit (.int .i64 c) := h
  simpa using e.symm

set_option maxRecDepth 100000 in
set_option maxHeartbeats 2000000 in
/-- (No sends have come out.) -/
theorem whole_any (L : Labs) (gw n k : Nat) (tv mv : Value) (cur : Array Value) (w : World) (hK : BlkAt w L (bl 2 0) gw cur 38) (h23 : cur[23]? = some tv) (h24 : cur[24]? = some (.slice none 0 0)) (h25 : cur[25]? = some mv) (hT : TextsAt w L tv n) (hM : MapsAt w L mv k) (hn : n ≤ 8000000) (hk : k ≤ 8000000) :
    Calls Tryz.prog 19 #[.pointer (some ⟨gw, 23, none⟩)] w fun e w' => e = .returned (.bool true) ∧ Below w.heap.size w w' := by
  obtain ⟨ls, hr, hls⟩ := hT
  obtain ⟨ms, hmr, hms⟩ := hM
  obtain ⟨ta, tk, rfl, _⟩ := hr.shape
  obtain ⟨ma, mk, rfl, _⟩ := hmr.shape
  have hgw := hK.1.lt
  have C23 : Hid (w.cell? ⟨gw, 23, none⟩ = some (.slice ta n tk)) := (hK.1.cell 23).trans h23
  have C24 : Hid (w.cell? ⟨gw, 24, none⟩ = some (.slice none 0 0)) := (hK.1.cell 24).trans h24
  have C25 : Hid (w.cell? ⟨gw, 25, none⟩ = some (.slice ma k mk)) := (hK.1.cell 25).trans h25
  have hll : ls.length = n := by have := hr.1.1; omega
  have hml : ms.length = k := by have := hmr.1.1; omega
  have HR := hide hr
  have HL := hide hls
  have HMR := hide hmr
  have HM := hide hms
  have hkc := keyCallers
  clear hr hls hmr hms hK h23 h24 h25
  go_enter Tryz.func19, Tryz.ntmps19
  go_wp2_with fail
  go_loopw [3] (fun i wr => ∃ j : Nat, j ≤ n ∧ i = .int .i64 j ∧ Below w.heap.size w wr) (fun i _ => n - (intOf i).toNat)
  case atStart => exact ⟨0, Nat.zero_le _, rfl, Below.refl _ _⟩
  case round =>
    obtain ⟨j, hj, rfl, hnx⟩ := hrel
    have Hnx := hide hnx
    by_cases hlt : j < n
    · have hltI : (j : Int) < (n : Int) := by omega
      have d23 : wr.cell? ⟨gw, 23, none⟩ = some (.slice ta n tk) := (hnx.cell (p := ⟨gw, 23, none⟩) hgw).trans C23.out
      obtain ⟨gt, rfl, hgt, _, hcell, _⟩ := HR.out.head (by omega)
      obtain ⟨v, hv⟩ : ∃ v, ls[j]? = some v := ⟨_, List.getElem?_eq_getElem (by omega)⟩
      obtain ⟨len, hT⟩ := HL.out j v hv
      obtain ⟨va, vc, rfl, hmx⟩ := hT.shape
      have hlenI : (len : Int) ≤ 9223372036854775807 := by unfold maxLen at hmx; omega
      have Hcv := hide (hcell j _ hv)
      have HT := hide hT
      clear hcell hv hT hnx
      go_wp2_with fail
      rw [show ((j : Int) / 4) = ((j / 4 : Nat) : Int) from by omega]
      refine (mark_any (j / 4) _ (by omega)).mono ?_
      rintro e w1 ⟨rfl, hb1⟩
      have Hb1 : Hid (Below w.heap.size w w1) := Hnx.out.trans (hb1.mono Hnx.out.size)
      clear hb1 d23
      generalize hm : mkB (j / 4) = m at *
      have Hm := hide hm
      clear hm
      go_wp2_with fail
      have d23 : w1.cell? ⟨gw, 23, none⟩ = some (.slice (some ⟨gt, 0, none⟩) n tk) := (Hb1.out.cell (p := ⟨gw, 23, none⟩) hgw).trans C23.out
      have dk : w1.cell? ⟨gt, j, none⟩ = some (.slice va len vc) := (Hb1.out.cell (p := ⟨gt, j, none⟩) hgt).trans Hcv.out
      go_loop [5] (fun q => ∃ t : Nat, t ≤ len ∧ q = .int .i64 t) (fun q => len - (intOf q).toNat)
      case atStart => exact ⟨0, Nat.zero_le _, rfl⟩
      case round =>
        obtain ⟨t, ht, rfl⟩ := hrel
        by_cases htl : t < len
        · have htI : (t : Int) < (len : Int) := by omega
          obtain ⟨gv, rfl, hgv, _, hcv, _⟩ := HT.out.head (by omega)
          have de : w1.cell? ⟨gv, t, none⟩ = some (encStr m) := (Hb1.out.cell (p := ⟨gv, t, none⟩) hgv).trans (hcv t _ (by rw [List.getElem?_replicate, if_pos htl]))
          clear hcv
          go_wp2_with fail
          go_round
          case rel => exact ⟨t + 1, by omega, by go_num⟩
          case measure => simp [intOf]; omega
        · go_wp2_with fail
          go_roundw
          case rel => exact ⟨j + 1, by omega, by go_num, Hb1.out⟩
          case measure => simp [intOf]; omega
    · have d23 : wr.cell? ⟨gw, 23, none⟩ = some (.slice ta n tk) := (hnx.cell (p := ⟨gw, 23, none⟩) hgw).trans C23.out
      have d24 : wr.cell? ⟨gw, 24, none⟩ = some (.slice none 0 0) := (hnx.cell (p := ⟨gw, 24, none⟩) hgw).trans C24.out
      have d25 : wr.cell? ⟨gw, 25, none⟩ = some (.slice ma k mk) := (hnx.cell (p := ⟨gw, 25, none⟩) hgw).trans C25.out
      clear hnx
      go_wp2_with fail
      refine wp_loop_rounds 1 ?_
      rw [rounds_succ]
      go_wp2_with fail
      go_loop [8, 9, 10] (fun q _ _ => ∃ t : Nat, t ≤ k ∧ q = .int .i64 t) (fun q _ _ => k - (intOf q).toNat)
      case atStart => exact ⟨0, Nat.zero_le _, rfl⟩
      case round =>
        obtain ⟨t, ht, rfl⟩ := hrel
        by_cases htl : t < k
        · have htI : (t : Int) < (k : Int) := by omega
          obtain ⟨gm, rfl, hgm, _, hcm, _⟩ := HMR.out.head (by omega)
          obtain ⟨u, hu⟩ : ∃ u, ms[t]? = some u := ⟨_, List.getElem?_eq_getElem (by omega)⟩
          obtain ⟨b, rfl, hO⟩ := HM.out t u hu
          have de : wr.cell? ⟨gm, t, none⟩ = some (.map (some b)) := (Hnx.out.cell (p := ⟨gm, t, none⟩) hgm).trans (hcm t _ hu)
          have hO' := om_below hO.1 Hnx.out hO.1.lt
          have hln := fun ty => hO'.len Tryz.underlying22 ty
          have hs1 : Maps.size (oneMap t) = 1 := rfl
          rw [hs1] at hln
          clear hcm hu hO
          go_wp2_with (first
            | (at_lookup; refine wpList_lookup_own_ok_int _ rfl _ _ 22 rfl 9 3 .i64 lawS Tryz.underlying22 Tryz.underlying3 (zeroInt _) b _ _ rfl hO' _ _ rfl hkc ?_; intro c hat hwc; obtain rfl := oneMap_at hat; rw [show Maps.has (oneMap t) (.string callers) = true from rfl])
            | fail)
          go_round
          case rel => exact ⟨t + 1, by omega, by go_num⟩
          case measure => simp [intOf]; omega
        · go_wp2_with fail
          go_ret
          exact ⟨rfl, Hnx.out⟩
end Go.Proofs.YtojpjaifhjigfaaGreatDoor
