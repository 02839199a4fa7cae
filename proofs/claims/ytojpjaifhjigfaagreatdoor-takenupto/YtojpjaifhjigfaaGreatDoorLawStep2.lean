/- (*World).step: the other kinds. -/
import Derived.Test.YtojpjaifhjigfaaGreatDoorLawStep
namespace Go.Proofs.YtojpjaifhjigfaaGreatDoor
open Go.RowKit Go.Maps

theorem Stepped.same {w w' : World} {L : Labs} {gw : Nat} {A : Nat → Addr} {cur : Array Value} {pv tv mv : Value} {np nt nm : Nat} {ps : List Value} (h : WAt w L gw A cur pv tv mv np nt nm ps) (h4 : nt % 4 = 0) (hb : Below w.heap.size w w') : Stepped w L gw A cur np nt nm w' :=
  ⟨L, cur, pv, tv, mv, np, nt, nm, ps, h.below hb, Nat.le_refl _, by omega, h4, by omega, by omega, fun _ _ => rfl, Step.of_below hb⟩

set_option maxRecDepth 100000 in
set_option maxHeartbeats 4000000 in
theorem step_skip (L : Labs) (gw : Nat) (A : Nat → Addr) (o : Opn) (cur : Array Value) (pv tv mv : Value) (np nt nm : Nat) (ps : List Value) (w : World) (h : WAt w L gw A cur pv tv mv np nt nm ps) (h26 : cur[26]? = some (.int .i64 7))
    (hk : o.k < 1 ∨ 7 < o.k) (h4 : nt % 4 = 0) : Calls Tryz.prog 18 #[.pointer (some ⟨gw, 0, none⟩), o.val] w fun e w' => e = .returned (.bool true) ∧ Stepped w L gw A cur np nt nm w' := by
  have c26 : w.cell? ⟨gw, 26, none⟩ = some (.int .i64 7) := (h.blk.1.cell 26).trans h26
  have hgl := h.blk.1.lt
  have HU := hide (fun o1 n => Stepped.same h h4 (below_drewN ((Below.refl w.heap.size w).alloc (Nat.le_refl _) o1) n))
  unfold Opn.val Opn.cells
  clear h
  generalize o.k = k at *
  have hne : ¬ k = 1 := by omega
  rcases hk with hk | hk
  · go_enter Tryz.func18, Tryz.ntmps18
    go_wp2_with fail
    go_quiet (fail)
    go_wp2_with fail
    go_ret
    exact ⟨rfl, HU.out _ _⟩
  · have hd : decide (k < 1) = false := by simp; omega
    go_enter Tryz.func18, Tryz.ntmps18
    go_wp2_with fail
    go_quiet (fail)
    go_wp2_with fail
    go_ret
    exact ⟨rfl, HU.out _ _⟩

set_option maxRecDepth 100000 in
set_option maxHeartbeats 4000000 in
theorem step_do_core (L : Labs) (gw : Nat) (A : Nat → Addr) (o : Opn) (cur : Array Value) (pv tv mv : Value) (np nt nm : Nat) (ps : List Value) (w : World) (hLn : ∀ k, w.heap.size ≤ k → L k = none) (h : WAt w L gw A cur pv tv mv np nt nm ps) (h26 : cur[26]? = some (.int .i64 7))
    (ho : o.Ok) (hk : o.k = 2 ∨ o.k = 5 ∨ o.k = 6 ∨ o.k = 7) (h4 : nt % 4 = 0) (hn1 : 1 ≤ np) (hn : nt + 8 ≤ 8000000) (hm : nm + 2 ≤ 8000000) : Calls Tryz.prog 18 #[.pointer (some ⟨gw, 0, none⟩), o.val] w fun e w' => e = .returned (.bool true) ∧ Stepped w L gw A cur np nt nm w' := by
  have c26 : w.cell? ⟨gw, 26, none⟩ = some (.int .i64 7) := (h.blk.1.cell 26).trans h26
  have hgl := h.blk.1.lt
  obtain ⟨pa, pk, rfl, _⟩ := h.prs.shape
  obtain ⟨gr, rfl, hgr, _, hcell, _⟩ := h.prs.head (by omega)
  have hpl : ps.length = np := by have := h.prs.1.1; omega
  have hlt : pickN o.ag np < np := pickN_lt _ (by omega)
  have HPick := hide (fun w => pick_any o.ag np w ho.a0 ho.a1 (by omega))
  generalize hi : pickN o.ag np = i at *
  obtain ⟨v, hv⟩ : ∃ v, ps[i]? = some v := ⟨_, List.getElem?_eq_getElem (by omega)⟩
  obtain ⟨gp, M, R, rfl, hP⟩ := h.pr i v hv
  have hci := hcell i _ hv
  have c22 : w.cell? ⟨gw, 22, none⟩ = some (.slice (some ⟨gr, 0, none⟩) np pk) := (h.blk.1.cell 22).trans h.c22
  obtain ⟨gx, gy, c, m, sv, lg, hpb, hA, hR, hSim⟩ := hP
  have p0 : w.cell? ⟨gp, 0, none⟩ = some (.pointer (some ⟨gx, 0, none⟩)) := hpb.1.cell 0
  have p1 : w.cell? ⟨gp, 1, none⟩ = some (.pointer (some ⟨gy, 0, none⟩)) := hpb.1.cell 1
  have hgpl := hpb.1.lt
  have hrl : R.rs.length ≤ 120 := by have := congrArg List.length hSim.bs; simp [Rf.bs] at this; have := hSim.b120; omega
  have hiI : (i : Int) < (np : Int) := by omega
  have H := hide h
  have Hv := hide hv
  have HPb := hide hpb
  have HA := hide hA
  have HR := hide hR
  have HSim := hide hSim
  have HTl := hide ho.tl
  obtain ⟨kk, hkk⟩ : ∃ kk, kk = o.k := ⟨_, rfl⟩
  have Hkk := hide hkk
  have hk1 : ¬ o.k = 1 := by omega
  have hk2 : decide (o.k < 1) = false := by simp; omega
  have hk3 : decide (7 < o.k) = false := by simp; omega
  clear h hcell hv hpb hA hR hSim ho hkk
  unfold Opn.val Opn.cells
  go_enter Tryz.func18, Tryz.ntmps18
  go_wp2_with fail
  go_quiet (fail)
  go_wp2_with fail
  generalize hV : World.drewN (World.alloc w _) _ = V
  have hBV : Below w.heap.size w V := by rw [← hV]; exact below_drewN ((Below.refl w.heap.size w).alloc (Nat.le_refl _) _) _
  have hNV : Blk V w.heap.size o.cells.toArray 47 := by rw [← hV]; exact (Blk.new w _ _).drewN _
  have f0 : V.cell? ⟨w.heap.size, 0, none⟩ = some (.int .i64 o.k) := hNV.cell 0
  have f1 : V.cell? ⟨w.heap.size, 1, none⟩ = some (.int .i64 o.ag) := hNV.cell 1
  have f2 : V.cell? ⟨w.heap.size, 2, none⟩ = some (.int .i64 o.b.dst) := hNV.cell 2
  have f3 : V.cell? ⟨w.heap.size, 3, none⟩ = some (encStr o.b.ten) := hNV.cell 3
  have f4 : V.cell? ⟨w.heap.size, 4, none⟩ = some (encStr o.b.id) := hNV.cell 4
  have f5 : V.cell? ⟨w.heap.size, 5, none⟩ = some (encStr o.b.body) := hNV.cell 5
  have c22' : V.cell? ⟨gw, 22, none⟩ = some (.slice (some ⟨gr, 0, none⟩) np pk) := (hBV.cell (p := ⟨gw, 22, none⟩) hgl).trans c22
  have c26' : V.cell? ⟨gw, 26, none⟩ = some (.int .i64 7) := (hBV.cell (p := ⟨gw, 26, none⟩) hgl).trans c26
  have hci' : V.cell? ⟨gr, i, none⟩ = _ := (hBV.cell (p := ⟨gr, i, none⟩) hgr).trans hci
  have p0' : V.cell? ⟨gp, 0, none⟩ = some (.pointer (some ⟨gx, 0, none⟩)) := (hBV.cell (p := ⟨gp, 0, none⟩) hgpl).trans p0
  have p1' : V.cell? ⟨gp, 1, none⟩ = some (.pointer (some ⟨gy, 0, none⟩)) := (hBV.cell (p := ⟨gp, 1, none⟩) hgpl).trans p1
  have HS0 : Hid (Step (fun _ => False) L w L V) := Step.of_below hBV
  have HW := hide (H.out.step HS0.out)
  have HBV := hide hBV
  have HNV := hide hNV
  clear hV c22 c26 hci p0 p1 hBV hNV
  go_quiet ((go_at_call 40; exact Calls.quiet_of_same (HPick.out _)))
  go_wp2_with fail
  refine (lasts_any L (2 * i + 2) gy R _ (HR.out.keep (HS0.out.trans (Step.drewN L V _)) (fun _ h => h)) hrl).mono ?_
  rintro e w1 ⟨⟨z1, rfl⟩, hb1⟩
  have hbV1 : Below V.heap.size V w1 := (below_drewN (Below.refl V.heap.size V) _).trans hb1
  have hB1 : Below w.heap.size w w1 := HBV.out.trans (hbV1.mono HBV.out.size)
  have hN1 := HNV.out.below hbV1 HNV.out.lt
  have k0 : w1.cell? ⟨w.heap.size, 0, none⟩ = some (.int .i64 o.k) := hN1.cell 0
  have k2 : w1.cell? ⟨w.heap.size, 2, none⟩ = some (.int .i64 o.b.dst) := hN1.cell 2
  have k3 : w1.cell? ⟨w.heap.size, 3, none⟩ = some (encStr o.b.ten) := hN1.cell 3
  have k4 : w1.cell? ⟨w.heap.size, 4, none⟩ = some (encStr o.b.id) := hN1.cell 4
  have k5 : w1.cell? ⟨w.heap.size, 5, none⟩ = some (encStr o.b.body) := hN1.cell 5
  have HW1 := hide (H.out.below hB1)
  have c26 : w1.cell? ⟨gw, 26, none⟩ = some (.int .i64 7) := (HW1.out.blk.1.cell 26).trans h26
  have hgl1 := HW1.out.blk.1.lt
  have HPb1 := hide (HPb.out.keep (Step.of_below (p := fun _ => False) hB1) (fun h => h))
  have p0 : w1.cell? ⟨gp, 0, none⟩ = some (.pointer (some ⟨gx, 0, none⟩)) := HPb1.out.1.cell 0
  have p1 : w1.cell? ⟨gp, 1, none⟩ = some (.pointer (some ⟨gy, 0, none⟩)) := HPb1.out.1.cell 1
  have HA1 := hide (HA.out.keep (Step.of_below (p := fun _ => False) hB1) (fun _ h => h))
  have HR1 := hide (HR.out.keep (Step.of_below (p := fun _ => False) hB1) (fun _ h => h))
  have HB1 := hide hB1
  have HN1 := hide hN1
  clear hb1 hbV1 hB1 hN1 f0 f1 f2 f3 f4 f5 c22' c26' hci' p0' p1' hk1 hk2 hk3 HPick
  rcases hk with hk | hk | hk | hk
  · have hn11 := refusal_le M o.b
    have HSub : Hid (∀ w2, Below w1.heap.size w1 w2 → Calls Tryz.prog 27 #[.pointer (some ⟨gx, 0, none⟩), batVal o.b] w2 fun e w' => e = .returned (errV A (M.refusal o.b)) ∧ Turned w1 L (2 * i + 1) gx (M.submitted o.b) w') := fun w2 hb2 => by
      refine (submit_any A L (2 * i + 1) gx M o.b w2 (HW1.out.err.hs.below hb2) (HA1.out.keep (Step.of_below (p := fun _ => False) hb2) (fun _ h => h)) HSim.out.b120 HTl.out (Cfg.num_d HSim.out.good.1).2 (fun x hx => (HSim.out.sl x ((HSim.out.hs x).2 hx)).2) (by have := HSim.out.lg; have := HSim.out.b120; omega) (by rw [HSim.out.rt]; exact HSim.out.b120)).mono ?_
      rintro e w' ⟨rfl, L', h1, h2⟩
      exact ⟨rfl, L', h1, (Step.of_below hb2).trans h2⟩
    generalize hev : errV A (M.refusal o.b) = ev0 at *
    have Hev := hide hev
    unfold batVal at HSub
    rw [hk] at k0 ⊢
    clear hk hev
    go_upto_region 10 with fail
    go_cut [8] (fun s8 wx => s8 = ev0 ∧ Turned w1 L (2 * i + 1) gx (M.submitted o.b) wx)
    case first =>
      go_region_with ((go_at_call 27; refine (HSub.out _ (by first | exact Below.refl _ _ | exact (Below.refl _ _).drew)).mono ?_; rintro e w2 ⟨rfl, hT2⟩))
      all_goals (go_wp2_with fail; go_meet; exact ⟨rfl, hT2⟩)
    case rest =>
    obtain ⟨rfl, L2, hA2, hS2⟩ := hcut
    generalize hwc : wc = w2 at *
    clear hwc
    have hno : ¬ ofP (2 * i + 1) (L w.heap.size) := by
      rw [hLn _ (Nat.le_refl _)]
      rintro ⟨q, hq⟩
      cases hq
    have hN2 : Blk w2 w.heap.size o.cells.toArray 47 := by
      unfold Blk
      rw [hS2.block _ HN1.out.lt hno]
      exact HN1.out
    have k2' : w2.cell? ⟨w.heap.size, 2, none⟩ = some (.int .i64 o.b.dst) := hN2.cell 2
    have k3' : w2.cell? ⟨w.heap.size, 3, none⟩ = some (encStr o.b.ten) := hN2.cell 3
    have k4' : w2.cell? ⟨w.heap.size, 4, none⟩ = some (encStr o.b.id) := hN2.cell 4
    have k5' : w2.cell? ⟨w.heap.size, 5, none⟩ = some (encStr o.b.body) := hN2.cell 5
    have hnl2 := hN2.lt
    have hPb2 := HPb1.out.keep hS2 (not_ofP (by omega) _)
    have p1' : w2.cell? ⟨gp, 1, none⟩ = some (.pointer (some ⟨gy, 0, none⟩)) := hPb2.1.cell 1
    have hgp2 := hPb2.1.lt
    have hR2 := HR1.out.keep hS2 (fun q => not_ofP (by omega) q)
    have HRS : Hid (∀ w3, Below w2.heap.size w2 w3 → Calls Tryz.prog 48 #[.pointer (some ⟨gy, 0, none⟩), batVal o.b] w3 fun e w' => e = .returned (.int .i64 (M.refusal o.b)) ∧ TurnedR w2 L2 (2 * i + 2) gy (R.submitted o.b) w') := fun w3 hb3 => by
      refine (refSubmit_any L2 (2 * i + 2) gy R o.b w3 (hR2.keep (Step.of_below (p := fun _ => False) hb3) (fun _ h => h)) hrl (by have := HSim.out.nl; omega) (by have := (Cfg.num_d HSim.out.good.1).1; rw [HSim.out.c]; omega)).mono ?_
      rintro e w' ⟨rfl, L', h1, h2⟩
      rw [sim_refusal HSim.out]
      exact ⟨rfl, L', h1, (Step.of_below hb3).trans h2⟩
    have HA2 := hide hA2
    have HS2 := hide hS2
    clear hN2 hPb2 hR2 hA2 hS2 k2 k3 k4 k5 p0 p1
    generalize hrn : M.refusal o.b = rn at *
    have Hrn := hide hrn
    unfold batVal at HRS
    clear hrn
    go_upto_region 11 with fail
    go_cut [9] (fun s9 wx => s9 = .int .i64 rn ∧ TurnedR w2 L2 (2 * i + 2) gy (R.submitted o.b) wx)
    case first =>
      go_region_with ((go_at_call 48; refine (HRS.out _ (by first | exact Below.refl _ _ | exact (Below.refl _ _).drew)).mono ?_; rintro e w3 ⟨rfl, hT3⟩))
      all_goals (go_wp2_with fail; go_meet; exact ⟨rfl, hT3⟩)
    case rest =>
    obtain ⟨rfl, L3, hR3, hS3⟩ := hcut
    generalize hwc : wc = w3 at *
    clear hwc
    have hA3 := HA2.out.keep hS3 (fun q => not_ofP (by omega) q)
    have hst : Step (fun l => ofP (2 * i + 1) l ∨ ofP (2 * i + 2) l) L w1 L3 w3 := (HS2.out.mono (fun l h => Or.inl h)).trans (hS3.mono (fun l h => Or.inr h))
    have HW3 := hide (HW1.out.agents Hv.out HPb1.out hA3 hR3 (sim_submitted HSim.out o.b) hst)
    have HS3 : Hid (Step someP L w L3 w3) := (Step.of_below HB1.out).trans (hst.mono (fun l h => by rcases h with ⟨q, rfl⟩ | ⟨q, rfl⟩ <;> simp [someP]))
    have c26' : w3.cell? ⟨gw, 26, none⟩ = some (.int .i64 7) := (HW3.out.blk.1.cell 26).trans h26
    have hgl3 := HW3.out.blk.1.lt
    have HIs := hide (is_any A rn w3 HW3.out.err.hs hn11)
    rw [Hev.out] at HIs
    clear hA3 hR3 hS3 hst c26 k2' k3' k4' k5' p1'
    go_wp2_with fail
    refine HIs.out.mono ?_
    rintro e w4 ⟨rfl, hb4⟩
    have c26 : w4.cell? ⟨gw, 26, none⟩ = some (.int .i64 7) := (hb4.cell (p := ⟨gw, 26, none⟩) hgl3).trans c26'
    have HW4 := hide (HW3.out.below hb4)
    have HS4 := hide (HS3.out.trans (Step.of_below hb4))
    clear hb4
    go_wp2_with fail
    go_ret
    exact ⟨rfl, L3, cur, _, tv, mv, np, nt, nm, ps, HW4.out, Nat.le_refl _, by omega, h4, by omega, by omega, fun _ _ => rfl, HS4.out⟩
  · have HSt := hide (pStatus_any A L gp gx gy (2 * i + 1) (2 * i + 2) M R o.b.id w1 HW1.out.err.hs p0 p1 HA1.out HR1.out HSim.out.b120 HSim.out.bs)
    rw [hk] at k0 ⊢
    clear hk
    go_wp2_with fail
    refine HSt.out.mono ?_
    rintro e w2 ⟨rfl, hb2⟩
    have c26' : w2.cell? ⟨gw, 26, none⟩ = some (.int .i64 7) := (hb2.cell (p := ⟨gw, 26, none⟩) hgl1).trans c26
    have HB2 : Hid (Below w.heap.size w w2) := HB1.out.trans (hb2.mono HB1.out.size)
    clear hb2
    go_wp2_with fail
    go_ret
    exact ⟨rfl, Stepped.same H.out h4 HB2.out⟩
  · have HD := hide (wDead_any L gw gp gx gy (2 * i + 1) (2 * i + 2) nt tv cur M R w1 HW1.out.blk HW1.out.c23 HW1.out.txt h4 (by omega) p0 p1 HA1.out HR1.out HSim.out.dd HSim.out.dr HSim.out.b120)
    rw [hk] at k0 ⊢
    clear hk
    go_wp2_with fail
    refine HD.out.mono ?_
    rintro e w2 ⟨rfl, L2, tv2, hK2, hT2, hS2⟩
    have HW2 := hide (HW1.out.text hK2 hT2 hS2)
    have c26' : w2.cell? ⟨gw, 26, none⟩ = some (.int .i64 7) := by
      rw [hK2.1.cell 26, Array.getElem?_setIfInBounds_ne (by omega)]
      exact h26
    have HS2 : Hid (Step someP L w L2 w2) := (Step.of_below HB1.out).trans (hS2.mono (fun l h => by rcases h with ⟨j, _, rfl⟩ | rfl | rfl <;> simp [someP, bl]))
    clear hK2 hT2 hS2
    go_wp2_with fail
    go_ret
    exact ⟨rfl, L2, _, _, _, _, np, nt + 4 + 4, nm, ps, HW2.out, Nat.le_refl _, by omega, by omega, by omega, by omega, fun q hq => by rw [Array.getElem?_setIfInBounds_ne (by omega)], HS2.out⟩
  · have HD := hide (wWaiting_any L gw gp gx gy (2 * i + 1) (2 * i + 2) nm mv cur M R w1 HW1.out.blk HW1.out.c25 HW1.out.mps (by omega) p0 p1 HA1.out HR1.out HSim.out.b120 hrl (by have := HSim.out.nl; omega) HSim.out.waits HSim.out.nd HSim.out.named (fun x hx => by have := (HSim.out.sl x hx).2; unfold maxLen; omega))
    rw [hk] at k0 ⊢
    clear hk
    go_wp2_with fail
    refine HD.out.mono ?_
    rintro e w2 ⟨rfl, L2, mv2, hK2, hT2, hS2⟩
    have HW2 := hide (HW1.out.map hK2 hT2 hS2)
    have c26' : w2.cell? ⟨gw, 26, none⟩ = some (.int .i64 7) := by
      rw [hK2.1.cell 26, Array.getElem?_setIfInBounds_ne (by omega)]
      exact h26
    have HS2 : Hid (Step someP L w L2 w2) := (Step.of_below HB1.out).trans (hS2.mono (fun l h => by rcases h with ⟨j, _, rfl⟩ | rfl | rfl <;> simp [someP, bl]))
    clear hK2 hT2 hS2
    go_wp2_with fail
    go_ret
    exact ⟨rfl, L2, _, _, _, _, np, nt, nm + 1 + 1, ps, HW2.out, Nat.le_refl _, by omega, by omega, by omega, by omega, fun q hq => by rw [Array.getElem?_setIfInBounds_ne (by omega)], HS2.out⟩

theorem step_do (L : Labs) (gw : Nat) (A : Nat → Addr) (o : Opn) (cur : Array Value) (pv tv mv : Value) (np nt nm : Nat) (ps : List Value) (w : World) (h : WAt w L gw A cur pv tv mv np nt nm ps) (h26 : cur[26]? = some (.int .i64 7))
    (ho : o.Ok) (hk : o.k = 2 ∨ o.k = 5 ∨ o.k = 6 ∨ o.k = 7) (h4 : nt % 4 = 0) (hn1 : 1 ≤ np) (hn : nt + 8 ≤ 8000000) (hm : nm + 2 ≤ 8000000) : Calls Tryz.prog 18 #[.pointer (some ⟨gw, 0, none⟩), o.val] w fun e w' => e = .returned (.bool true) ∧ Stepped w L gw A cur np nt nm w' := by
  refine (step_do_core (clip L w.heap.size) gw A o cur pv tv mv np nt nm ps w (fun k hk => clip_none L hk) (h.step (Step.clipped L w)) h26 ho hk h4 hn1 hn hm).mono ?_
  rintro e w' ⟨rfl, L', cur', pv', tv', mv', np', nt', nm', ps', q1, q2, q3, q4, q5, q6, q7, q8⟩
  exact ⟨rfl, L', cur', pv', tv', mv', np', nt', nm', ps', q1, q2, q3, q4, q5, q6, q7, (Step.clipped L w).trans q8⟩

/-- A step of any kind but 3 and 4. -/
theorem step_any (L : Labs) (gw : Nat) (A : Nat → Addr) (o : Opn) (cur : Array Value) (pv tv mv : Value) (np nt nm : Nat) (ps : List Value) (c0 c1 : Cfg) (m0 m1 : Option Nat) (D0 D1 : DataW Unit) (w : World) (h : WAt w L gw A cur pv tv mv np nt nm ps) (hc0 : CfgAt w L cur 0 c0 m0 D0) (hc1 : CfgAt w L cur 1 c1 m1 D1) (h26 : cur[26]? = some (.int .i64 7))
    (ho : o.Ok) (h3 : o.k ≠ 3) (h4' : o.k ≠ 4) (h4 : nt % 4 = 0) (hn1 : 1 ≤ np) (hnp : np ≤ 8000000) (hn : nt + 8 ≤ 8000000) (hm : nm + 2 ≤ 8000000) : Calls Tryz.prog 18 #[.pointer (some ⟨gw, 0, none⟩), o.val] w fun e w' => e = .returned (.bool true) ∧ Stepped w L gw A cur np nt nm w' := by
  by_cases h1 : o.k = 1
  · exact step_open L gw A o cur pv tv mv np nt nm ps c0 c1 m0 m1 D0 D1 w h hc0 hc1 ho h1 h4 hnp
  by_cases h2 : o.k < 1 ∨ 7 < o.k
  · exact step_skip L gw A o cur pv tv mv np nt nm ps w h h26 h2 h4
  · exact step_do L gw A o cur pv tv mv np nt nm ps w h h26 ho (by omega) h4 hn1 hn hm
end Go.Proofs.YtojpjaifhjigfaaGreatDoor
