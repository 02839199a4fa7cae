/- (*World).asked: all of all agents. -/
import Derived.Test.YtojpjaifhjigfaaGreatDoorLawWorld
namespace Go.Proofs.YtojpjaifhjigfaaGreatDoor
open Go.RowKit Go.Maps

/-- What is labelled. -/
def someP : Lab → Prop := fun l => l ≠ none

set_option maxRecDepth 100000 in
set_option maxHeartbeats 2000000 in
theorem asked_any (L : Labs) (gw : Nat) (A : Nat → Addr) (cur : Array Value) (pv tv mv : Value) (np nt nm : Nat) (ps : List Value) (w : World) (h : WAt w L gw A cur pv tv mv np nt nm ps) (h4 : nt % 4 = 0) (hn : nt + 8 * np ≤ 8000000) (hm : nm + 2 * np ≤ 8000000) :
    Calls Tryz.prog 17 #[.pointer (some ⟨gw, 0, none⟩)] w fun e w' => e = .returned (.bool true) ∧ ∃ L', Step someP L w L' w' := by
  obtain ⟨pa, pk, rfl, _⟩ := h.prs.shape
  have hpl : ps.length = np := by have := h.prs.1.1; omega
  have H := hide h
  clear h
  go_enter Tryz.func17, Tryz.ntmps17
  go_wp2_with fail
  go_loopw [3] (fun i wr => ∃ (t : Nat) (L1 : Labs) (cur1 : Array Value) (tv1 mv1 : Value), t ≤ np ∧ i = .int .i64 t ∧ WAt wr L1 gw A cur1 (.slice pa np pk) tv1 mv1 np (nt + 8 * t) (nm + 2 * t) ps ∧ Step someP L w L1 wr) (fun i _ => np - (intOf i).toNat)
  case atStart => exact ⟨0, L, cur, tv, mv, Nat.zero_le _, rfl, H.out, Step.refl _ _ _⟩
  case round =>
    obtain ⟨t, L1, cur1, tv1, mv1, ht, rfl, hW, hS⟩ := hrel
    have HW := hide hW
    have HS := hide hS
    have a22 : wr.cell? ⟨gw, 22, none⟩ = some (.slice pa np pk) := (hW.blk.1.cell 22).trans hW.c22
    clear hW hS
    by_cases hlt : t < np
    · have hltI : (t : Int) < (np : Int) := by omega
      obtain ⟨gr, rfl, hgr, _, hcell, _⟩ := HW.out.prs.head (by omega)
      obtain ⟨v, hv⟩ : ∃ v, ps[t]? = some v := ⟨_, List.getElem?_eq_getElem (by omega)⟩
      obtain ⟨gp, M, R, rfl, hP⟩ := HW.out.pr t v hv
      have hct := hcell t _ hv
      have HP := hide hP
      have Hv := hide hv
      clear hcell hP hv
      obtain ⟨gx, gy, c, m, sv, lg, hpb, hA, hR, hSim⟩ := HP.out
      have HSim := hide hSim
      have HD := hide (wDead_any L1 gw gp gx gy (2 * t + 1) (2 * t + 2) (nt + 8 * t) tv1 cur1 M R wr HW.out.blk HW.out.c23 HW.out.txt (by omega) (by omega) (hpb.1.cell 0) (hpb.1.cell 1) hA hR hSim.dd hSim.dr hSim.b120)
      clear hpb hA hR hSim
      go_wp2_with fail
      refine HD.out.mono ?_
      rintro e w1 ⟨rfl, L2, tv2, hK2, hT2, hS2⟩
      have hW2 := HW.out.text hK2 hT2 hS2
      have HS2 : Hid (Step someP L w L2 w1) := HS.out.trans (hS2.mono (fun l h => by rcases h with ⟨j, _, rfl⟩ | rfl | rfl <;> simp [someP, bl]))
      have HW2 := hide hW2
      have hP2 : PairAt w1 L2 t gp M R := HP.out.keep hS2 (by simp [wdP, bl]) (fun q => by simp [wdP, bl]) (fun q => by simp [wdP, bl])
      obtain ⟨gx2, gy2, c2, m2, sv2, lg2, hpb2, hA2, hR2, _⟩ := hP2
      have HDw := hide (wWaiting_any L2 gw gp gx2 gy2 (2 * t + 1) (2 * t + 2) (nm + 2 * t) mv1 _ M R w1 HW2.out.blk HW2.out.c25 HW2.out.mps (by omega) (hpb2.1.cell 0) (hpb2.1.cell 1) hA2 hR2 HSim.out.b120 (by have := congrArg List.length HSim.out.bs; simp [Rf.bs] at this; have := HSim.out.b120; omega) (by have := HSim.out.nl; omega) HSim.out.waits HSim.out.nd HSim.out.named (fun x hx => by have := (HSim.out.sl x hx).2; unfold maxLen; omega))
      have HP2 := hide (show PairAt w1 L2 t gp M R from ⟨gx2, gy2, c2, m2, sv2, lg2, hpb2, hA2, hR2, HSim.out⟩)
      clear hK2 hT2 hS2 hW2 hpb2 hA2 hR2 HD
      go_wp2_with fail
      refine HDw.out.mono ?_
      rintro e w2 ⟨rfl, L3, mv3, hK3, hT3, hS3⟩
      have HW3 := hide (HW2.out.map hK3 hT3 hS3)
      have HS3 : Hid (Step someP L w L3 w2) := HS2.out.trans (hS3.mono (fun l h => by rcases h with ⟨j, _, rfl⟩ | rfl | rfl <;> simp [someP, bl]))
      obtain ⟨gx3, gy3, c3, m3, sv3, lg3, hpb3, hA3, hR3, _⟩ := HP2.out.keep hS3 (by simp [wwP, bl]) (fun q => by simp [wwP, bl]) (fun q => by simp [wwP, bl])
      have HA3 := hide hA3
      have HR3 := hide hR3
      have HE3 := hide (HW3.out.err.hs)
      obtain ⟨nv3, qv3, bv3, dv3, la3, lk3, hrf⟩ := hR3
      obtain ⟨ba, bc, rfl, _⟩ := hrf.tk.shape
      have P0 : Hid (w2.cell? ⟨gp, 0, none⟩ = some (.pointer (some ⟨gx3, 0, none⟩))) := hpb3.1.cell 0
      have P1 : Hid (w2.cell? ⟨gp, 1, none⟩ = some (.pointer (some ⟨gy3, 0, none⟩))) := hpb3.1.cell 1
      have C13 : Hid (w2.cell? ⟨gy3, 13, none⟩ = some (.slice ba R.rs.length bc)) := hrf.blk.1.cell 13
      have HTk := hide hrf.tk
      have hgpl := hpb3.1.lt
      have hgyl := hrf.blk.1.lt
      have hrl : R.rs.length = M.bs.length := by have := congrArg List.length HSim.out.bs; simpa [Rf.bs] using this
      have hr120 : R.rs.length ≤ 120 := by have := HSim.out.b120; omega
      clear hK3 hT3 hS3 hpb3 hA3 hrf HDw
      go_wp2_with fail
      go_loopw [7, 8] (fun q _ wq => ∃ j : Nat, j ≤ R.rs.length ∧ q = .int .i64 j ∧ Below w2.heap.size w2 wq) (fun q _ _ => R.rs.length - (intOf q).toNat)
      case atStart => exact ⟨0, Nat.zero_le _, rfl, Below.refl _ _⟩
      case round =>
        obtain ⟨j, hj, rfl, hnx⟩ := hrel
        have Hnx := hide hnx
        have p1 : wr.cell? ⟨gp, 1, none⟩ = some (.pointer (some ⟨gy3, 0, none⟩)) := (hnx.cell (p := ⟨gp, 1, none⟩) hgpl).trans P1.out
        have c13 : wr.cell? ⟨gy3, 13, none⟩ = some (.slice ba R.rs.length bc) := (hnx.cell (p := ⟨gy3, 13, none⟩) hgyl).trans C13.out
        clear hnx
        by_cases hjl : j < R.rs.length
        · have hjI : (j : Int) < (R.rs.length : Int) := by omega
          obtain ⟨gb, rfl, hgb, _, hcb, _⟩ := HTk.out.head (by omega)
          obtain ⟨r, hr⟩ : ∃ r, R.rs[j]? = some r := ⟨_, List.getElem?_eq_getElem hjl⟩
          have e2 : wr.cell? ⟨gb, j * 8 + 2, none⟩ = some (encStr r.b.id) := (Hnx.out.cell (p := ⟨gb, _, none⟩) hgb).trans (hcb _ _ (RBat.cell hr (by omega) rfl))
          have HSt := hide (pStatus_any A L3 gp gx3 gy3 (2 * t + 1) (2 * t + 2) M R r.b.id wr (HE3.out.below Hnx.out) ((Hnx.out.cell (p := ⟨gp, 0, none⟩) hgpl).trans P0.out) p1 (HA3.out.keep (Step.of_below (p := fun _ => False) Hnx.out) (fun _ h => h)) (HR3.out.keep (Step.of_below (p := fun _ => False) Hnx.out) (fun _ h => h)) HSim.out.b120 HSim.out.bs)
          clear hcb hr
          go_wp2_with fail
          refine HSt.out.mono ?_
          rintro e w5 ⟨rfl, hb5⟩
          have HB5 : Hid (Below w2.heap.size w2 w5) := Hnx.out.trans (hb5.mono Hnx.out.size)
          clear hb5
          go_wp2_with fail
          go_roundw
          case rel => exact ⟨j + 1, by omega, by go_num, HB5.out⟩
          case measure => simp [intOf]; omega
        · go_wp2_with fail
          go_roundw
          case rel => exact ⟨t + 1, L3, _, tv2, mv3, by omega, by go_num, (HW3.out.below Hnx.out), HS3.out.trans (Step.of_below Hnx.out)⟩
          case measure => simp [intOf]; omega
    · have HF := hide (whole_any L1 gw _ _ tv1 mv1 cur1 wr HW.out.blk HW.out.c23 HW.out.c24 HW.out.c25 HW.out.txt HW.out.mps (by omega) (by omega))
      go_wp2_with fail
      refine HF.out.mono ?_
      rintro e w1 ⟨rfl, hb1⟩
      have HS1 : Hid (Step someP L w L1 w1) := HS.out.trans (Step.of_below hb1)
      clear hb1
      go_wp2_with fail
      go_ret
      exact ⟨rfl, L1, HS1.out⟩
end Go.Proofs.YtojpjaifhjigfaaGreatDoor
