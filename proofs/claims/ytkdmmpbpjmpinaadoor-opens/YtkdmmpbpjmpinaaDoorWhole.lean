/- (*Book).whole: every list that came out is as its owner wrote it. -/
import Derived.Test.YtkdmmpbpjmpinaaDoorAsk
namespace Go.Proofs.YtkdmmpbpjmpinaaDoor
open Go.RowKit Go.Maps

/-- A row of single cells: its head, and each cell. -/
theorem row_cell {w : World} {B : Nat} {e : TypeId} {a : Option Addr} {n k : Nat} {ls : List Value} (h : w.ownsRow B e 1 (.slice a n k) n ls) (h0 : 0 < n) : ∃ g, a = some ⟨g, 0, none⟩ ∧ B ≤ g ∧ g < w.heap.size ∧ ∀ i v, ls[i]? = some v → w.cell? ⟨g, i, none⟩ = some v := by
  rcases h.2 with ⟨_, h1⟩ | ⟨g, cap, cur, h1, h2, h3, h4, h5, h6, h7⟩
  · omega
  · simp only [Value.slice.injEq, true_and] at h1
    obtain ⟨rfl, rfl⟩ := h1
    refine ⟨g, rfl, h2, (Array.getElem?_eq_some_iff.1 h3).1, fun i v hv => ?_⟩
    have hb : Blk w g cur e := h3
    rw [hb.cell i]
    rw [← h7] at hv
    have hi : i < n * 1 := by
      have := (List.getElem?_eq_some_iff.1 hv).1
      rw [List.length_take] at this; omega
    rw [List.getElem?_take_of_lt hi] at hv
    simpa using hv

set_option maxRecDepth 100000 in
set_option maxHeartbeats 1000000 in
theorem whole_any (gw n : Nat) (ta : Option Addr) (tk : Nat) (w : World) (c23 : w.cell? ⟨gw, 23, none⟩ = some (.slice ta n tk)) (c24 : w.cell? ⟨gw, 24, none⟩ = some (.slice none 0 0)) (c25 : w.cell? ⟨gw, 25, none⟩ = some (.slice none 0 0))
    (hB : BookAt w gw (.slice ta n tk) n) (hn : (n : Int) ≤ 1000000) : Calls Tryd.prog 20 #[.pointer (some ⟨gw, 23, none⟩)] w fun e w' => e = .returned (.bool true) ∧ Below w.heap.size w w' := by
  obtain ⟨ls, hr, hll, hbl⟩ := hB
  have hgw := World.block_lt_of_cell? w _ c23
  have HR := hide hr
  have HL := hide hbl
  have HC23 := hide c23
  clear hr hbl
  go_enter Tryd.func20, Tryd.ntmps20
  go_wp2_with fail
  go_loopw [3] (fun i wr => ∃ k : Nat, k ≤ n ∧ i = .int .i64 k ∧ Below w.heap.size w wr) (fun i _ => n - (intOf i).toNat)
  case atStart => exact ⟨0, Nat.zero_le _, rfl, Below.refl _ _⟩
  case round =>
    obtain ⟨k, hk, rfl, hnx⟩ := hrel
    have Hnx := hide hnx
    have d23 : wr.cell? ⟨gw, 23, none⟩ = some (.slice ta n tk) := by rw [hnx.cell (p := ⟨gw, 23, none⟩) hgw]; exact HC23.out
    by_cases hlt : k < n
    · have hltI : (k : Int) < (n : Int) := by omega
      obtain ⟨gt, rfl, hgt1, hgt2, hcell⟩ := row_cell HR.out (by omega)
      obtain ⟨v, hv⟩ : ∃ v, ls[k]? = some v := ⟨_, List.getElem?_eq_getElem (by omega)⟩
      obtain ⟨len, hT⟩ := HL.out k v hv
      obtain ⟨va, vc, rfl⟩ := hT.shape
      have hlen : (List.replicate len (mkB (k / 4))).length = len := by simp
      rw [hlen] at hT hv
      have hcv := hcell k _ hv
      have Hcv := hide hcv
      have HT := hide hT
      clear hcell hv hT hcv hnx
      go_wp2_with fail
      rw [show ((k : Int) / 4) = ((k / 4 : Nat) : Int) from by omega]
      refine (mark_any (k / 4) _ (by omega)).mono ?_
      rintro e w1 ⟨rfl, hb1⟩
      have Hb1 : Hid (Below w.heap.size w w1) := Hnx.out.trans (hb1.mono Hnx.out.size)
      clear hb1 d23
      generalize hm : mkB (k / 4) = m at *
      have Hm := hide hm
      clear hm
      go_wp2_with fail
      have d23 : w1.cell? ⟨gw, 23, none⟩ = some (.slice (some ⟨gt, 0, none⟩) n tk) := by rw [Hb1.out.cell (p := ⟨gw, 23, none⟩) hgw]; exact HC23.out
      have dk : w1.cell? ⟨gt, k, none⟩ = some (.slice va len vc) := by rw [Hb1.out.cell (p := ⟨gt, k, none⟩) hgt2]; exact Hcv.out
      have hlenI : (len : Int) ≤ 9223372036854775807 := by
        rcases HT.out.2 with ⟨_, h1⟩ | ⟨g, cap, cur, _, _, _, h4, h5, _⟩
        · simp at h1; omega
        · have h6 : len ≤ cap := by simpa using h4
          unfold maxLen at h5; omega
      go_loop [5] (fun j => ∃ t : Nat, t ≤ len ∧ j = .int .i64 t) (fun j => len - (intOf j).toNat)
      case atStart => exact ⟨0, Nat.zero_le _, rfl⟩
      case round =>
        obtain ⟨t, ht, rfl⟩ := hrel
        by_cases htl : t < len
        · have htI : (t : Int) < (len : Int) := by omega
          obtain ⟨gv, rfl, hRv, _⟩ := (show Texts w (gw + 1) (.slice va (List.replicate len m).length vc) (List.replicate len m) by rw [List.length_replicate]; exact HT.out).head (by simp; omega)
          have hgv : gv < w.heap.size := by obtain ⟨cu, hcu, _⟩ := hRv; exact hcu.lt
          have de : w1.cell? ⟨gv, t, none⟩ = some (encStr m) := by
            rw [Hb1.out.cell (p := ⟨gv, t, none⟩) hgv]
            have := hRv.cell t (by simpa using htl)
            simpa using this
          clear hRv
          go_wp2_with fail
          go_round
          case rel => exact ⟨t + 1, by omega, by go_num⟩
          case measure => simp [intOf]; omega
        · go_wp2_with fail
          go_roundw
          case rel => exact ⟨k + 1, by omega, by go_num, Hb1.out⟩
          case measure => simp [intOf]; omega
    · clear d23
      have d24 : wr.cell? ⟨gw, 24, none⟩ = some (.slice none 0 0) := by rw [hnx.cell (p := ⟨gw, 24, none⟩) hgw]; exact c24
      have d25 : wr.cell? ⟨gw, 25, none⟩ = some (.slice none 0 0) := by rw [hnx.cell (p := ⟨gw, 25, none⟩) hgw]; exact c25
      have d23 : wr.cell? ⟨gw, 23, none⟩ = some (.slice ta n tk) := by rw [hnx.cell (p := ⟨gw, 23, none⟩) hgw]; exact HC23.out
      clear hnx
      go_wp2_with fail
      refine wp_loop_rounds 1 ?_
      rw [rounds_succ]
      go_wp2_with fail
      refine wp_loop_rounds 1 ?_
      rw [rounds_succ]
      go_wp2_with fail
      go_ret
      exact ⟨rfl, Hnx.out⟩
end Go.Proofs.YtkdmmpbpjmpinaaDoor
