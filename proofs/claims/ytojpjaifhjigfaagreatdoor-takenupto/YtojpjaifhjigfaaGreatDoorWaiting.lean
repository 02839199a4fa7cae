/- Waiting: how many pending batches each tenant has, in a new map. -/
import Derived.Test.YtojpjaifhjigfaaGreatDoorCounts
namespace Go.Proofs.YtojpjaifhjigfaaGreatDoor
open Go.RowKit Go.Maps

theorem invLaneK (key : Value) (kl : Lit) (hk : keyOf Tryz.prog 202 key = some kl) : ∃ x : Int × List UInt8, key = .agg #[.int .i64 x.1, encStr x.2] := by
  obtain ⟨d, t, h, _⟩ := lane_inv hk
  exact ⟨(d, t), h⟩
theorem invLaneV (v : Value) (y : DataW Value × List MemPlace) (hv : Rq v = some y) : ∃ c : Option Addr × Nat × Nat, v = .slice c.1 c.2.1 c.2.2 := by
  unfold Rq at hv
  split at hv
  · exact ⟨(_, _, _), rfl⟩
  · cases hv

theorem om_made {V : World} {n : Nat} (h : V.heap.size = n) : OM (V.alloc (.map #[] 0)) n 0 (.map []) := h ▸ World.ownsMap_made (H := Unit) V Tryz.prog 9 (plainElem Tryz.prog 3)

/-- A new map of counts. -/
def NewCounts (w w' : World) (f : List UInt8 → Nat) (e : Ending) : Prop := ∃ b n D, e = .returned (.map (some b)) ∧ w.heap.size ≤ b ∧ OM w' b n D ∧ n ≤ 120 ∧ CountsAre D f ∧ Below w.heap.size w w'

set_option maxRecDepth 100000 in
set_option maxHeartbeats 1000000 in
theorem pWaiting_any (L : Labs) (who g : Nat) (M : Ag) (w : World) (h : AgentAt w L who g M) (hb : M.bs.length ≤ 120) :
    Calls Tryz.prog 77 #[.pointer (some ⟨g, 0, none⟩)] w fun e w' => NewCounts w w' (waits M.bs) e := by
  obtain ⟨bq, bm, cn, tv, dv, nv, rv, ov, h⟩ := h
  have c1 : w.cell? ⟨g, 1, none⟩ = some (.map (some bq)) := h.blk.1.cell 1
  have hgl := h.blk.1.lt
  obtain ⟨D, ⟨hq, _⟩, hsz, h4, hhas, hrow⟩ := h.qs
  have hql := hq.lt
  have hmm := @run_makeMap Tryz.prog
  have HQ := hide hq
  have H4 := hide h4
  have HH := hide hhas
  have HR := hide hrow
  clear h hq h4 hhas hrow
  go_enter Tryz.func77, Tryz.ntmps77
  go_wp2_with (first
    | (at_range; refine wpList_range_own _ rfl _ 132 rfl 202 51 lawLane Tryz.underlying132 _ bq _ _ rfl (HQ.out.alloc _) ?_; intro w0 hrg0 hg0 hs0)
    | fail)
  try go_frame
  have hw0B : Below w.heap.size w w0 := ((Below.refl _ _).alloc (Nat.le_refl _) _).grown hg0 (by simp) (fun j hj => by cases hj)
  have hw0M : OM w0 w.heap.size 0 (.map []) := (om_made rfl).kept hg0 (by simp)
  try simp only [World.size_alloc] at hrg0 ⊢
  have HB := hide hw0B
  have HM := hide hw0M
  clear hw0B hw0M hg0 hs0
  generalize hN : w.heap.size = N at *
  have HN := hide hN
  clear hN
  go_loopw [5] (fun _ wr => ∃ (left : Lit → Bool) (cnt : Nat) (Dc : DataW Unit), wr.ranges Tryz.prog 202 Rq bq (N + 1) (Maps.size D) D left cnt ∧ cnt ≤ Maps.size D ∧ OM wr N (Maps.size D - cnt) Dc ∧ CountsAre Dc (cntLeft M.bs left) ∧ Below N w wr) (fun _ wr => wr.rangeLeft bq (N + 1))
  case atStart => exact ⟨_, _, .map [], hrg0, Nat.le_refl _, HM.out.mono (Nat.zero_le _), countsAre_start HH.out, HB.out⟩
  case round =>
    obtain ⟨left, cnt, Dc, hrg, hcs, hout, hC, hnx⟩ := hrel
    have Hout := hide hout
    have HC := hide hC
    have Hnx := hide hnx
    clear hout hC hnx
    go_wp2_with (first
      | (at_next; refine wpList_next_ranges _ rfl _ rfl 202 lawLane Rq (fun x : Int × List UInt8 => .agg #[.int .i64 x.1, encStr x.2]) (fun c : Option Addr × Nat × Nat => .slice c.1 c.2.1 c.2.2) invLaneK invLaneV bq (N + 1) (Maps.size D) _ _ _ rfl hrg ?_ ?_)
      | fail)
    · intro hc0 hl0
      have HE : Hid (CountsAre Dc (waits M.bs)) := HC.out.congr (fun t _ => cntLeft_end hl0 t)
      clear hl0
      go_wp2_with fail
      go_ret
      exact ⟨N, _, Dc, rfl, by rw [HN.out]; exact Nat.le_refl _, Hout.out, by omega, HE.out, by rw [HN.out]; exact Hnx.out⟩
    · intro x1 x2 va vn vc kl yd yp w2 cnt2 hkey hlk hv hat hrg2 hlt hg2 hs2 hen
      obtain ⟨d, t, ex, rfl, hok⟩ := lane_inv hkey
      obtain ⟨rfl, rfl⟩ : x1 = d ∧ x2 = t := by simpa [laneVal, encStr] using ex
      have hy : yd = .held (.slice va vn vc) := by
        have : some (DataW.held (.slice va vn vc), ([] : List MemPlace)) = some (yd, yp) := hv
        exact (congrArg Prod.fst (Option.some.inj this)).symm
      have hhd : hdr D x1 x2 = .slice va vn vc := hdr_of_at (fun z => by rw [hat z, hy])
      have hDk : Maps.has D (laneKey x1 x2) = true := has_true_of_atKey hat
      obtain ⟨hd0, hd4⟩ := H4.out x1 x2 hok hDk
      have hvn : vn = (pend M.bs x1 x2).length := by
        have := HR.out x1 x2 hok
        rw [hhd] at this
        obtain ⟨a', c', e', _⟩ := this.shape
        simpa using (by simpa using e' : va = a' ∧ vn = (pend M.bs x1 x2).length ∧ vc = c').2.1
      have hple := pend_le M.bs x1 x2
      have hc4 := cntLeft_le M.bs left x2
      have Hst : Hid (∀ t' : List UInt8, t'.length ≤ maxLen → cntLeft M.bs (fun z => left z && !z.sameKey (laneKey x1 x2)) t' = if t' = x2 then cntLeft M.bs left x2 + vn else cntLeft M.bs left t') := by
        rw [hvn]
        exact fun t' ht' => cntLeft_step hok hd0 hd4 ht' hlk
      have hkS := keyStr hok.2
      have Hok := hide hok
      have hout1 : OM w2 N (Maps.size D - cnt) Dc := Hout.out.kept hg2 (by simp)
      have HB2 : Hid (Below N w w2) := Hnx.out.grown hg2 (by have := Hnx.out.size; have := HN.out; omega) (fun j hj => by cases hj; omega)
      have HMe : Hid (cnt2 < wr.rangeLeft bq (N + 1)) := by rw [hrg.left_eq]; exact hlt
      have Hrg2 := hide hrg2
      have hNw2 : N < w2.heap.size := hout1.lt
      have hvn120 : vn ≤ 120 := by omega
      clear hkey hlk hv hat ex hrg2 hg2 hs2 hok hy hhd hDk hvn hple
      by_cases h0 : 0 < vn
      · have h0I : (0 : Int) < (vn : Int) := by omega
        go_wp2_with (first
          | (at_lookup; refine wpList_lookup_own_int _ rfl _ _ 22 rfl 9 3 .i64 lawS Tryz.underlying22 Tryz.underlying3 (zeroInt _) N _ _ rfl (hout1.alloc _) _ _ rfl hkS ?_; intro q hq hwq; obtain rfl : q = cntLeft M.bs left x2 := HC.out.look Hok.out.2 hq)
          | (at_mapUpdate; refine wpList_mapUpdate_own _ rfl _ _ _ 22 rfl 9 3 lawS Tryz.underlying22 _ N _ _ rfl (hout1.alloc _) (by unfold maxLen; omega) _ _ _ rfl rfl hkS _ [] (plainElem_int Tryz.underlying3 (WalkArith.wf_i64 (by omega))) ?_; intro w3 hout3 hg3; go_frame)
          | fail)
        have hrg3 := (Hrg2.out.alloc _).kept hg3 (by simp; omega) (by simp)
        go_roundw
        case rel => exact ⟨_, cnt2, _, hrg3, by omega, hout3.mono (by omega), (HC.out.put hout1.isMap (n := cntLeft M.bs left x2 + vn) (by omega)).congr (fun t' ht' => by rw [Hst.out t' ht']), (HB2.out.alloc (by omega) _).grown hg3 (by simp; omega) (fun j hj => by cases hj; omega)⟩
        case measure => rw [hrg3.left_eq]; exact HMe.out
      · have h0I : ¬ (0 : Int) < (vn : Int) := by omega
        go_wp2_with fail
        go_roundw
        case rel => exact ⟨_, cnt2, Dc, Hrg2.out.alloc _, by omega, (hout1.mono (by omega)).alloc _, HC.out.congr (fun t' ht' => by rw [Hst.out t' ht']; split <;> simp_all), HB2.out.alloc (by omega) _⟩
        case measure => rw [(Hrg2.out.alloc _).left_eq]; exact HMe.out

set_option maxHeartbeats 400000 in
theorem waiting_any (L : Labs) (who g : Nat) (M : Ag) (w : World) (h : AgentAt w L who g M) (hb : M.bs.length ≤ 120) :
    Calls Tryz.prog 36 #[.pointer (some ⟨g, 0, none⟩)] w fun e w' => NewCounts w w' (waits M.bs) e := by
  have H := hide (pWaiting_any L who g M w h hb)
  clear h hb
  go_enter Tryz.func36, Tryz.ntmps36
  go_wp2_with fail
  refine H.out.mono ?_
  rintro e w' ⟨b, n, D, rfl, h1⟩
  have H1 := hide h1
  clear h1
  go_wp2_with fail
  go_ret
  exact ⟨b, n, D, rfl, H1.out⟩
end Go.Proofs.YtojpjaifhjigfaaGreatDoor
