/- Steps of the proof (several texts in one): LawStepS, UpPre. -/
import Derived.Test.YtojpjaifhjigfaaGreatDoorMSentupto27

/- (*World).step, of every kind up to 7. -/
namespace Go.Proofs.YtojpjaifhjigfaaGreatDoor
open Go.RowKit Go.Maps

/-- The law's world behind a step. -/
def Stepped (w : World) (L : Labs) (gw : Nat) (A : Nat → Addr) (cur : Array Value) (X : WS) (w' : World) : Prop :=
  ∃ L' cur' X', WAt w' L' gw A cur' X' ∧ (X.np ≤ X'.np ∧ X'.np ≤ X.np + 1 ∧ X'.nt % 4 = 0 ∧ X'.nt ≤ X.nt + 8 ∧ X'.ns % 4 = 0 ∧ X'.ns ≤ X.ns + 4 ∧ X'.nm ≤ X.nm + 2 ∧ X'.t = X.t + 1) ∧ (∀ i, i < 22 ∨ i = 26 → cur'[i]? = cur[i]?) ∧ Step someP L w L' w'
theorem Stepped.same {w w' : World} {L : Labs} {gw : Nat} {A : Nat → Addr} {cur : Array Value} {X : WS} (h : WAt w L gw A cur X) (h4 : X.nt % 4 = 0) (h4s : X.ns % 4 = 0) (hb : Below w.heap.size w w') : Stepped w L gw A cur X w' :=
  ⟨L, cur, { X with t := X.t + 1 }, (h.below hb).later _ (Nat.le_succ _), ⟨Nat.le_refl _, Nat.le_succ _, h4, Nat.le_add_right _ _, h4s, Nat.le_add_right _ _, Nat.le_add_right _ _, rfl⟩, fun _ _ => rfl, Step.of_below hb⟩
/-- What a step wants of the world. -/
structure StepOk (cur : Array Value) (X : WS) : Prop where
  m7 : cur[26]? = some (.int .i64 7)
  t4 : X.nt % 4 = 0
  s4 : X.ns % 4 = 0
  n1 : 1 ≤ X.np
  np : X.np ≤ 8000000
  nt : X.nt + 8 ≤ 8000000
  ns : X.ns + 4 ≤ 8000000
  nm : X.nm + 2 ≤ 8000000
  tt : X.t + 1 ≤ 1000000000000

theorem refusal_le (M : Ag) (b : Bat) : M.refusal b ≤ 11 := by
  unfold Ag.refusal Ag.misfit
  (repeat' split) <;> omega
theorem pickIs (z : Int) (h0 : -9223372036854775808 ≤ z) (h1 : z ≤ 9223372036854775807) : PickIs z (pickN z 2) := fun w => pick_any z 2 w h0 h1 (by omega)
theorem Inv.small {M : Ag} {t : Nat} (h : Inv M t) : ∀ b ∈ M.bs, 0 ≤ b.st ∧ b.st ≤ 3 ∧ 0 ≤ b.fl ∧ b.fl ≤ 10 := fun b hb => by
  obtain ⟨_, _, _, _, _, _, h0, h1⟩ := h.each b hb
  have ha : 1 ≤ M.c.at' ∧ M.c.at' ≤ 10 := by
    have := List.all_eq_true.1 h.good.1 (M.c.at', 1, 10) (by simp [Cfg.nums])
    simpa [inB] using this
  omega

set_option maxRecDepth 100000 in
set_option maxHeartbeats 4000000 in
theorem step_open (L : Labs) (gw : Nat) (A : Nat → Addr) (o : Opn) (cur : Array Value) (X : WS) (c0 c1 : Cfg) (m0 m1 : Option Nat) (D0 D1 : DataW Unit) (w : World) (h : WAt w L gw A cur X) (hc0 : CfgAt w L cur 0 c0 m0 D0) (hc1 : CfgAt w L cur 1 c1 m1 D1)
    (ho : o.Ok) (hk : o.k = 1) (h4 : X.nt % 4 = 0) (h4s : X.ns % 4 = 0) (hnp : X.np ≤ 8000000) : Calls Tryz.prog 18 #[.pointer (some ⟨gw, 0, none⟩), o.val] w fun e w' => e = .returned (.bool true) ∧ Stepped w L gw A cur X w' ∧ (GoodC c0 D0 → pickN o.ms 2 = 0 → ∃ L' cur' X', WAt w' L' gw A cur' X' ∧ X'.np = X.np + 1 ∧ X'.nt = X.nt ∧ X'.ns = X.ns ∧ X'.nm = X.nm ∧ X'.t = X.t + 1 ∧ (∀ i, i < 22 ∨ i = 26 → cur'[i]? = cur[i]?) ∧ Step someP L w L' w') := by
  have HO : Hid (∀ o1, Calls Tryz.prog 16 #[.pointer (some ⟨gw, 0, none⟩), .int .i64 o.ms] (w.alloc o1) fun e w' => e = .returned (.bool true) ∧ Stepped w L gw A cur X w' ∧ (GoodC c0 D0 → pickN o.ms 2 = 0 → ∃ L' cur' X', WAt w' L' gw A cur' X' ∧ X'.np = X.np + 1 ∧ X'.nt = X.nt ∧ X'.ns = X.ns ∧ X'.nm = X.nm ∧ X'.t = X.t + 1 ∧ (∀ i, i < 22 ∨ i = 26 → cur'[i]? = cur[i]?) ∧ Step someP L w L' w')) := fun o1 => by
    have key : ∀ n c m D, n < 2 → PickIs o.ms n → CfgAt (w.alloc o1) L cur n c m D → (GoodC c0 D0 → pickN o.ms 2 = 0 → GoodC c D) → Calls Tryz.prog 16 #[.pointer (some ⟨gw, 0, none⟩), .int .i64 o.ms] (w.alloc o1) fun e w' => e = .returned (.bool true) ∧ Stepped w L gw A cur X w' ∧ (GoodC c0 D0 → pickN o.ms 2 = 0 → ∃ L' cur' X', WAt w' L' gw A cur' X' ∧ X'.np = X.np + 1 ∧ X'.nt = X.nt ∧ X'.ns = X.ns ∧ X'.nm = X.nm ∧ X'.t = X.t + 1 ∧ (∀ i, i < 22 ∨ i = 26 → cur'[i]? = cur[i]?) ∧ Step someP L w L' w') := fun n c m D hn hpk hc hgd => by
      refine (opened_any L gw A o.ms n hn hpk cur X c m D (w.alloc o1) (h.step (Step.alloc L w o1)) hc hnp).mono ?_
      rintro e w' ⟨rfl, L', cur', pv', np', ps', h1, h2, h3, h3', h5, h6⟩
      have hst : Step someP L w L' w' := (Step.alloc L w o1).trans (h6.mono (fun l h => by rcases h with rfl | rfl <;> simp [someP, bl]))
      exact ⟨rfl, ⟨L', cur', _, h1.later (X.t + 1) (Nat.le_succ _), ⟨h2, h3, h4, Nat.le_add_right _ _, h4s, Nat.le_add_right _ _, Nat.le_add_right _ _, rfl⟩, fun i hi => h5 i (by omega), hst⟩, fun g1 g2 => ⟨L', cur', _, h1.later (X.t + 1) (Nat.le_succ _), h3' (hgd g1 g2), rfl, rfl, rfl, rfl, fun i hi => h5 i (by omega), hst⟩⟩
    have hs := Step.alloc (p := fun _ => False) L w o1
    have hlt := pickN_lt o.ms (n := 2) (by omega)
    have hpk := pickIs o.ms ho.m0 ho.m1
    generalize pickN o.ms 2 = n at *
    match n, hlt with
    | 0, _ => exact key 0 c0 m0 D0 (by omega) hpk (hc0.keep hs (fun h => h) (fun _ _ => rfl) (by omega)) (fun h _ => h)
    | 1, _ => exact key 1 c1 m1 D1 (by omega) hpk (hc1.keep hs (fun h => h) (fun _ _ => rfl) (by omega)) (fun _ h => by cases h)
  unfold Opn.val Opn.cells
  rw [hk]
  clear h hc0 hc1 ho hk
  go_enter Tryz.func18, Tryz.ntmps18
  go_wp2_with fail
  refine (HO.out _).mono ?_
  rintro e w' ⟨rfl, hT⟩
  have HT := hide hT
  clear hT
  go_wp2_with fail
  go_ret
  exact ⟨rfl, HT.out⟩

set_option maxRecDepth 100000 in
set_option maxHeartbeats 4000000 in
theorem step_skip (L : Labs) (gw : Nat) (A : Nat → Addr) (o : Opn) (cur : Array Value) (X : WS) (w : World) (h : WAt w L gw A cur X) (hk : o.k < 1 ∨ 7 < o.k) (hx : StepOk cur X) : Calls Tryz.prog 18 #[.pointer (some ⟨gw, 0, none⟩), o.val] w fun e w' => e = .returned (.bool true) ∧ Stepped w L gw A cur X w' := by
  have c26 : w.cell? ⟨gw, 26, none⟩ = some (.int .i64 7) := (h.blk.1.cell 26).trans hx.m7
  have hgl := h.blk.1.lt
  have HU := hide (fun o1 n => Stepped.same h hx.t4 hx.s4 (below_drewN ((Below.refl w.heap.size w).alloc (Nat.le_refl _) o1) n))
  unfold Opn.val Opn.cells
  clear h hx
  generalize o.k = k at *
  have hne : ¬ k = 1 := by omega
  rcases hk with hk | hk
  · go_enter Tryz.func18, Tryz.ntmps18
    go_wp2_with fail
    go_quiet (fail)
    go_wp2_with fail
    go_ret
    exact ⟨rfl, HU.out _ _⟩
  · have hd : decide (k < 1) = false := by simp; omega
    go_enter Tryz.func18, Tryz.ntmps18
    go_wp2_with fail
    go_quiet (fail)
    go_wp2_with fail
    go_ret
    exact ⟨rfl, HU.out _ _⟩

theorem sizeOp : (Tryz.prog.info? 47).map (fun x => x.size) = some 11 := by kernel_rfl

set_option maxRecDepth 100000 in
set_option maxHeartbeats 8000000 in
theorem step_do_core (L : Labs) (gw : Nat) (A : Nat → Addr) (o : Opn) (cur : Array Value) (X : WS) (w : World) (hLn : ∀ k, w.heap.size ≤ k → L k = none) (h : WAt w L gw A cur X) (hx : StepOk cur X) (ho : o.Ok) (hk : 2 ≤ o.k ∧ o.k ≤ 7) : Calls Tryz.prog 18 #[.pointer (some ⟨gw, 0, none⟩), o.val] w fun e w' => e = .returned (.bool true) ∧ Stepped w L gw A cur X w' := by
  have hgl := h.blk.1.lt
  obtain ⟨h26, h4, h4s, hn1, hnp, hn, hns, hm, htt⟩ := hx
  have Hclip := hide hLn
  obtain ⟨pv, tv, sv0, mv, np, nt, ns0, nm, tt, ps⟩ := X
  dsimp only at h4 h4s hn1 hnp hn hns hm htt
  obtain ⟨pa, pk, epv, _⟩ := h.prs.shape
  dsimp only at epv
  subst epv
  have c26 : w.cell? ⟨gw, 26, none⟩ = some (.int .i64 7) := (h.blk.1.cell 26).trans h26
  obtain ⟨gr, rfl, hgr, _, hcell, _⟩ := h.prs.head (show 0 < np by omega)
  have hpl : ps.length = np := by have := h.prs.1.1; dsimp only at this; omega
  have hlt : pickN o.ag np < np := pickN_lt _ (by omega)
  have HPick := hide (fun w => pick_any o.ag np w ho.a0 ho.a1 (by omega))
  generalize hi : pickN o.ag np = i at *
  obtain ⟨v, hv⟩ : ∃ v, ps[i]? = some v := ⟨_, List.getElem?_eq_getElem (by omega)⟩
  obtain ⟨gp, M, R, rfl, hP⟩ := h.pr i v hv
  have hci := hcell i _ hv
  have c22 : w.cell? ⟨gw, 22, none⟩ = some (.slice (some ⟨gr, 0, none⟩) np pk) := (h.blk.1.cell 22).trans h.c22
  obtain ⟨gx, gy, c, m, sv, lg, hpb, hA, hR, hSim, hInv⟩ := hP
  have p0 : w.cell? ⟨gp, 0, none⟩ = some (.pointer (some ⟨gx, 0, none⟩)) := hpb.1.cell 0
  have p1 : w.cell? ⟨gp, 1, none⟩ = some (.pointer (some ⟨gy, 0, none⟩)) := hpb.1.cell 1
  have hgpl := hpb.1.lt
  have hrl : R.rs.length ≤ 120 := hSim.r120 hInv
  have hsm : ∀ b ∈ R.bs, 0 ≤ b.st ∧ b.st ≤ 3 ∧ 0 ≤ b.fl ∧ b.fl ≤ 10 := by rw [hSim.bs]; exact hInv.small
  have Hsm := hide hsm
  have HInv := hide hInv
  have hiI : (i : Int) < (np : Int) := by omega
  have H := hide h
  have Hv := hide hv
  have HPb := hide hpb
  have HA := hide hA
  have HR := hide hR
  have HSim := hide hSim
  have HTl := hide ho.tl
  obtain ⟨kk, hkk⟩ : ∃ kk, kk = o.k := ⟨_, rfl⟩
  have Hkk := hide hkk
  have hk1 : ¬ o.k = 1 := by omega
  have hk2 : decide (o.k < 1) = false := by simp; omega
  have hk3 : decide (7 < o.k) = false := by simp; omega
  clear h hcell hv hpb hA hR hSim hInv hsm ho hkk hLn
  unfold Opn.val Opn.cells
  go_enter Tryz.func18, Tryz.ntmps18
  go_wp2_with fail
  go_quiet (fail)
  go_wp2_with fail
  generalize hV : World.drewN (World.alloc w _) _ = V
  have hBV : Below w.heap.size w V := by rw [← hV]; exact below_drewN ((Below.refl w.heap.size w).alloc (Nat.le_refl _) _) _
  have hNV : Blk V w.heap.size o.cells.toArray 47 := by rw [← hV]; exact (Blk.new w _ _).drewN _
  have f0 : V.cell? ⟨w.heap.size, 0, none⟩ = some (.int .i64 o.k) := hNV.cell 0
  have f1 : V.cell? ⟨w.heap.size, 1, none⟩ = some (.int .i64 o.ag) := hNV.cell 1
  have f2 : V.cell? ⟨w.heap.size, 2, none⟩ = some (.int .i64 o.b.dst) := hNV.cell 2
  have f3 : V.cell? ⟨w.heap.size, 3, none⟩ = some (encStr o.b.ten) := hNV.cell 3
  have f4 : V.cell? ⟨w.heap.size, 4, none⟩ = some (encStr o.b.id) := hNV.cell 4
  have f5 : V.cell? ⟨w.heap.size, 5, none⟩ = some (encStr o.b.body) := hNV.cell 5
  have c22' : V.cell? ⟨gw, 22, none⟩ = some (.slice (some ⟨gr, 0, none⟩) np pk) := (hBV.cell (p := ⟨gw, 22, none⟩) hgl).trans c22
  have c26' : V.cell? ⟨gw, 26, none⟩ = some (.int .i64 7) := (hBV.cell (p := ⟨gw, 26, none⟩) hgl).trans c26
  have hci' : V.cell? ⟨gr, i, none⟩ = _ := (hBV.cell (p := ⟨gr, i, none⟩) hgr).trans hci
  have p0' : V.cell? ⟨gp, 0, none⟩ = some (.pointer (some ⟨gx, 0, none⟩)) := (hBV.cell (p := ⟨gp, 0, none⟩) hgpl).trans p0
  have p1' : V.cell? ⟨gp, 1, none⟩ = some (.pointer (some ⟨gy, 0, none⟩)) := (hBV.cell (p := ⟨gp, 1, none⟩) hgpl).trans p1
  have HS0 : Hid (Step (fun _ => False) L w L V) := Step.of_below hBV
  have HW := hide (H.out.step HS0.out)
  have HBV := hide hBV
  have HNV := hide hNV
  clear hV c22 c26 hci p0 p1 hBV hNV
  go_quiet ((go_at_call 40; exact Calls.quiet_of_same (HPick.out _)))
  go_wp2_with fail
  refine (lasts_any L (2 * i + 2) gy R _ (HR.out.keep (HS0.out.trans (Step.drewN L V _)) (fun _ h => h)) hrl Hsm.out).mono ?_
  rintro e w1 ⟨rfl, hb1⟩
  generalize lastsOf R.bs = z1
  have hbV1 : Below V.heap.size V w1 := (below_drewN (Below.refl V.heap.size V) _).trans hb1
  have hB1 : Below w.heap.size w w1 := HBV.out.trans (hbV1.mono HBV.out.size)
  have hN1 := HNV.out.below hbV1 HNV.out.lt
  have k0 : w1.cell? ⟨w.heap.size, 0, none⟩ = some (.int .i64 o.k) := hN1.cell 0
  have k2 : w1.cell? ⟨w.heap.size, 2, none⟩ = some (.int .i64 o.b.dst) := hN1.cell 2
  have k3 : w1.cell? ⟨w.heap.size, 3, none⟩ = some (encStr o.b.ten) := hN1.cell 3
  have k4 : w1.cell? ⟨w.heap.size, 4, none⟩ = some (encStr o.b.id) := hN1.cell 4
  have k5 : w1.cell? ⟨w.heap.size, 5, none⟩ = some (encStr o.b.body) := hN1.cell 5
  have HW1 := hide (H.out.below hB1)
  have c26 : w1.cell? ⟨gw, 26, none⟩ = some (.int .i64 7) := (HW1.out.blk.1.cell 26).trans h26
  have hgl1 := HW1.out.blk.1.lt
  have HPb1 := hide (HPb.out.keep (Step.of_below (p := fun _ => False) hB1) (fun h => h))
  have p0 : w1.cell? ⟨gp, 0, none⟩ = some (.pointer (some ⟨gx, 0, none⟩)) := HPb1.out.1.cell 0
  have p1 : w1.cell? ⟨gp, 1, none⟩ = some (.pointer (some ⟨gy, 0, none⟩)) := HPb1.out.1.cell 1
  have HA1 := hide (HA.out.keep (Step.of_below (p := fun _ => False) hB1) (fun _ h => h))
  have HR1 := hide (HR.out.keep (Step.of_below (p := fun _ => False) hB1) (fun _ h => h))
  have HB1 := hide hB1
  have HN1 := hide hN1
  clear hb1 hbV1 hB1 hN1 f0 f1 f2 f3 f4 f5 c22' c26' hci' p0' p1' hk1 hk2 hk3 HPick
  have hk' : o.k = 2 ∨ o.k = 3 ∨ o.k = 4 ∨ o.k = 5 ∨ o.k = 6 ∨ o.k = 7 := by omega
  clear hk
  rcases hk' with hk | hk | hk | hk | hk | hk
  · have hn11 := refusal_le M o.b
    have HSub : Hid (∀ w2, Below w1.heap.size w1 w2 → Calls Tryz.prog 27 #[.pointer (some ⟨gx, 0, none⟩), batVal o.b] w2 fun e w' => e = .returned (errV A (M.refusal o.b)) ∧ Turned w1 L (2 * i + 1) gx (M.submitted o.b) w') := fun w2 hb2 => by
      refine (submit_inv A L (2 * i + 1) gx tt M o.b w2 (HW1.out.err.hs.below hb2) (HA1.out.keep (Step.of_below (p := fun _ => False) hb2) (fun _ h => h)) HInv.out (by omega) HTl.out).mono ?_
      rintro e w' ⟨rfl, L', h1, h2⟩
      exact ⟨rfl, L', h1, (Step.of_below hb2).trans h2⟩
    generalize hev : errV A (M.refusal o.b) = ev0 at *
    have Hev := hide hev
    unfold batVal at HSub
    rw [hk] at k0 ⊢
    clear hk hev
    go_upto_region 10 with fail
    go_cut [8] (fun s8 wx => s8 = ev0 ∧ Turned w1 L (2 * i + 1) gx (M.submitted o.b) wx)
    case first =>
      go_region_with ((go_at_call 27; refine (HSub.out _ (by first | exact Below.refl _ _ | exact (Below.refl _ _).drew)).mono ?_; rintro e w2 ⟨rfl, hT2⟩))
      all_goals (go_wp2_with fail; go_meet; exact ⟨rfl, hT2⟩)
    case rest =>
    obtain ⟨rfl, L2, hA2, hS2⟩ := hcut
    generalize hwc : wc = w2 at *
    clear hwc
    have hno : ¬ ofP (2 * i + 1) (L w.heap.size) := by
      rw [Hclip.out _ (Nat.le_refl _)]
      rintro ⟨q, hq⟩
      cases hq
    have hN2 : Blk w2 w.heap.size o.cells.toArray 47 := by
      unfold Blk
      rw [hS2.block _ HN1.out.lt hno]
      exact HN1.out
    have k2' : w2.cell? ⟨w.heap.size, 2, none⟩ = some (.int .i64 o.b.dst) := hN2.cell 2
    have k3' : w2.cell? ⟨w.heap.size, 3, none⟩ = some (encStr o.b.ten) := hN2.cell 3
    have k4' : w2.cell? ⟨w.heap.size, 4, none⟩ = some (encStr o.b.id) := hN2.cell 4
    have k5' : w2.cell? ⟨w.heap.size, 5, none⟩ = some (encStr o.b.body) := hN2.cell 5
    have hnl2 := hN2.lt
    have hPb2 := HPb1.out.keep hS2 (not_ofP (by omega) _)
    have p1' : w2.cell? ⟨gp, 1, none⟩ = some (.pointer (some ⟨gy, 0, none⟩)) := hPb2.1.cell 1
    have hgp2 := hPb2.1.lt
    have hR2 := HR1.out.keep hS2 (fun q => not_ofP (by omega) q)
    have HRS : Hid (∀ w3, Below w2.heap.size w2 w3 → Calls Tryz.prog 48 #[.pointer (some ⟨gy, 0, none⟩), batVal o.b] w3 fun e w' => e = .returned (.int .i64 (M.refusal o.b)) ∧ TurnedR w2 L2 (2 * i + 2) gy (R.submitted o.b) w') := fun w3 hb3 => by
      refine (refSubmit_any L2 (2 * i + 2) gy R o.b w3 (hR2.keep (Step.of_below (p := fun _ => False) hb3) (fun _ h => h)) hrl (by rw [HSim.out.ns]; have := HInv.out.nl; omega) (by have := (Cfg.num_d HInv.out.good.1).1; rw [HSim.out.c]; omega)).mono ?_
      rintro e w' ⟨rfl, L', h1, h2⟩
      rw [sim_refusal HSim.out HInv.out]
      exact ⟨rfl, L', h1, (Step.of_below hb3).trans h2⟩
    have HA2 := hide hA2
    have HS2 := hide hS2
    clear hN2 hPb2 hR2 hA2 hS2 k2 k3 k4 k5 p0 p1
    generalize hrn : M.refusal o.b = rn at *
    have Hrn := hide hrn
    unfold batVal at HRS
    clear hrn
    go_upto_region 11 with fail
    go_cut [9] (fun s9 wx => s9 = .int .i64 rn ∧ TurnedR w2 L2 (2 * i + 2) gy (R.submitted o.b) wx)
    case first =>
      go_region_with ((go_at_call 48; refine (HRS.out _ (by first | exact Below.refl _ _ | exact (Below.refl _ _).drew)).mono ?_; rintro e w3 ⟨rfl, hT3⟩))
      all_goals (go_wp2_with fail; go_meet; exact ⟨rfl, hT3⟩)
    case rest =>
    obtain ⟨rfl, L3, hR3, hS3⟩ := hcut
    generalize hwc : wc = w3 at *
    clear hwc
    have hA3 := HA2.out.keep hS3 (fun q => not_ofP (by omega) q)
    have hst : Step (fun l => ofP (2 * i + 1) l ∨ ofP (2 * i + 2) l) L w1 L3 w3 := (HS2.out.mono (fun l h => Or.inl h)).trans (hS3.mono (fun l h => Or.inr h))
    have HW3 := hide (HW1.out.agents Hv.out HPb1.out hA3 hR3 (sim_submitted HSim.out HInv.out o.b) (HInv.out.submitted o.b) (Nat.le_succ _) hst)
    have HS3 : Hid (Step someP L w L3 w3) := (Step.of_below HB1.out).trans (hst.mono (fun l h => by rcases h with ⟨q, rfl⟩ | ⟨q, rfl⟩ <;> simp [someP]))
    have c26' : w3.cell? ⟨gw, 26, none⟩ = some (.int .i64 7) := (HW3.out.blk.1.cell 26).trans h26
    have hgl3 := HW3.out.blk.1.lt
    have HIs := hide (is_any A rn w3 HW3.out.err.hs hn11)
    rw [Hev.out] at HIs
    clear hA3 hR3 hS3 hst c26 k2' k3' k4' k5' p1'
    go_wp2_with fail
    refine HIs.out.mono ?_
    rintro e w4 ⟨rfl, hb4⟩
    have c26 : w4.cell? ⟨gw, 26, none⟩ = some (.int .i64 7) := (hb4.cell (p := ⟨gw, 26, none⟩) hgl3).trans c26'
    have HW4 := hide (HW3.out.below hb4)
    have HS4 := hide (HS3.out.trans (Step.of_below hb4))
    clear hb4
    go_wp2_with fail
    go_ret
    exact ⟨rfl, L3, cur, _, HW4.out, ⟨Nat.le_refl _, Nat.le_succ _, h4, Nat.le_add_right _ _, h4s, Nat.le_add_right _ _, Nat.le_add_right _ _, rfl⟩, fun _ _ => rfl, HS4.out⟩
  · have HTk := hide (ticks_core L gw gp A o cur _ i w1 (fun k hk => Hclip.out k (Nat.le_trans HB1.out.size hk)) HW1.out Hv.out h4s (by dsimp only; omega) htt)
    rw [hk] at k0 ⊢
    clear hk
    go_wp2_with (first
      | (refine wpList_load_mid rfl 47 _ rfl w.heap.size 0 rfl o.cells _ (HN1.out.range 0 _ rfl) Tryz.underlying47 rfl sizeOp ?_)
      | fail)
    refine HTk.out.mono ?_
    rintro e w2 ⟨rfl, L2, sv2, hW2, hS2⟩
    have HW2 := hide hW2
    have c26' : w2.cell? ⟨gw, 26, none⟩ = some (.int .i64 7) := by
      rw [hW2.blk.1.cell 26, Array.getElem?_setIfInBounds_ne (by omega)]
      exact h26
    have HS2 : Hid (Step someP L w L2 w2) := (Step.of_below HB1.out).trans hS2
    clear hW2 hS2
    go_wp2_with fail
    go_ret
    exact ⟨rfl, L2, _, _, HW2.out, ⟨Nat.le_refl _, Nat.le_succ _, h4, Nat.le_add_right _ _, by show (ns0 + 4) % 4 = 0; omega, Nat.le_refl _, Nat.le_add_right _ _, rfl⟩, fun q hq => by rw [Array.getElem?_setIfInBounds_ne (by omega)], HS2.out⟩
  · have HTk := hide (pReply_core L gw gp A o cur _ i w1 (fun k hk => Hclip.out k (Nat.le_trans HB1.out.size hk)) HW1.out Hv.out htt)
    rw [hk] at k0 ⊢
    clear hk
    go_wp2_with (first
      | (refine wpList_load_mid rfl 47 _ rfl w.heap.size 0 rfl o.cells _ (HN1.out.range 0 _ rfl) Tryz.underlying47 rfl sizeOp ?_)
      | fail)
    refine HTk.out.mono ?_
    rintro e w2 ⟨rfl, L2, hW2, hS2⟩
    have HW2 := hide hW2
    have c26' : w2.cell? ⟨gw, 26, none⟩ = some (.int .i64 7) := (hW2.blk.1.cell 26).trans h26
    have HS2 : Hid (Step someP L w L2 w2) := (Step.of_below HB1.out).trans hS2
    clear hW2 hS2
    go_wp2_with fail
    go_ret
    exact ⟨rfl, L2, _, _, HW2.out, ⟨Nat.le_refl _, Nat.le_succ _, h4, Nat.le_add_right _ _, h4s, Nat.le_add_right _ _, Nat.le_add_right _ _, rfl⟩, fun _ _ => rfl, HS2.out⟩
  · have HSt := hide (pStatus_any A L gp gx gy (2 * i + 1) (2 * i + 2) M R o.b.id w1 HW1.out.err.hs p0 p1 HA1.out HR1.out HInv.out.b120 HSim.out.bs)
    rw [hk] at k0 ⊢
    clear hk
    go_wp2_with fail
    refine HSt.out.mono ?_
    rintro e w2 ⟨rfl, hb2⟩
    have c26' : w2.cell? ⟨gw, 26, none⟩ = some (.int .i64 7) := (hb2.cell (p := ⟨gw, 26, none⟩) hgl1).trans c26
    have HB2 : Hid (Below w.heap.size w w2) := HB1.out.trans (hb2.mono HB1.out.size)
    clear hb2
    go_wp2_with fail
    go_ret
    exact ⟨rfl, Stepped.same H.out h4 h4s HB2.out⟩
  · have HD := hide (wDead_any L gw gp gx gy (2 * i + 1) (2 * i + 2) nt tv cur M R w1 HW1.out.blk HW1.out.c23 HW1.out.txt h4 (by omega) p0 p1 HA1.out HR1.out HInv.out.dead_lt HSim.out.dead HSim.out.bs HInv.out.b120 HInv.out.dead_le)
    rw [hk] at k0 ⊢
    clear hk
    go_wp2_with fail
    refine HD.out.mono ?_
    rintro e w2 ⟨rfl, L2, tv2, hK2, hT2, hS2⟩
    have HW2 := hide (HW1.out.text hK2 hT2 hS2)
    have c26' : w2.cell? ⟨gw, 26, none⟩ = some (.int .i64 7) := by
      rw [hK2.1.cell 26, Array.getElem?_setIfInBounds_ne (by omega)]
      exact h26
    have HS2 : Hid (Step someP L w L2 w2) := (Step.of_below HB1.out).trans (hS2.mono (fun l h => by rcases h with ⟨j, _, rfl⟩ | rfl | rfl <;> simp [someP, bl]))
    clear hK2 hT2 hS2
    go_wp2_with fail
    go_ret
    exact ⟨rfl, L2, _, _, HW2.out.later (tt + 1) (Nat.le_succ _), ⟨Nat.le_refl _, Nat.le_succ _, by show (nt + 4 + 4) % 4 = 0; omega, by show nt + 4 + 4 ≤ nt + 8; omega, h4s, Nat.le_add_right _ _, Nat.le_add_right _ _, rfl⟩, fun q hq => by rw [Array.getElem?_setIfInBounds_ne (by omega)], HS2.out⟩
  · have HD := hide (wWaiting_any L gw gp gx gy (2 * i + 1) (2 * i + 2) nm mv cur M R w1 HW1.out.blk HW1.out.c25 HW1.out.mps (by omega) p0 p1 HA1.out HR1.out HInv.out.b120 hrl (by rw [HSim.out.ns]; have := HInv.out.nl; omega) (HSim.out.waits HInv.out) (by rw [HSim.out.ns]; exact HInv.out.nd) (HSim.out.inNs HInv.out) (fun x hx => by rw [HSim.out.ns] at hx; have := (HInv.out.sl x hx).2; unfold maxLen; omega))
    rw [hk] at k0 ⊢
    clear hk
    go_wp2_with fail
    refine HD.out.mono ?_
    rintro e w2 ⟨rfl, L2, mv2, hK2, hT2, hS2⟩
    have HW2 := hide (HW1.out.map hK2 hT2 hS2)
    have c26' : w2.cell? ⟨gw, 26, none⟩ = some (.int .i64 7) := by
      rw [hK2.1.cell 26, Array.getElem?_setIfInBounds_ne (by omega)]
      exact h26
    have HS2 : Hid (Step someP L w L2 w2) := (Step.of_below HB1.out).trans (hS2.mono (fun l h => by rcases h with ⟨j, _, rfl⟩ | rfl | rfl <;> simp [someP, bl]))
    clear hK2 hT2 hS2
    go_wp2_with fail
    go_ret
    exact ⟨rfl, L2, _, _, HW2.out.later (tt + 1) (Nat.le_succ _), ⟨Nat.le_refl _, Nat.le_succ _, h4, Nat.le_add_right _ _, h4s, Nat.le_add_right _ _, by show nm + 1 + 1 ≤ nm + 2; omega, rfl⟩, fun q hq => by rw [Array.getElem?_setIfInBounds_ne (by omega)], HS2.out⟩

theorem step_do (L : Labs) (gw : Nat) (A : Nat → Addr) (o : Opn) (cur : Array Value) (X : WS) (w : World) (h : WAt w L gw A cur X) (hx : StepOk cur X) (ho : o.Ok) (hk : 2 ≤ o.k ∧ o.k ≤ 7) : Calls Tryz.prog 18 #[.pointer (some ⟨gw, 0, none⟩), o.val] w fun e w' => e = .returned (.bool true) ∧ Stepped w L gw A cur X w' := by
  refine (step_do_core (clip L w.heap.size) gw A o cur X w (fun k hk => clip_none L hk) (h.step (Step.clipped L w)) hx ho hk).mono ?_
  rintro e w' ⟨rfl, L', cur', X', q1, q2, q3, q4⟩
  exact ⟨rfl, L', cur', X', q1, q2, q3, (Step.clipped L w).trans q4⟩
/-- A step of any kind. -/
theorem step_any (L : Labs) (gw : Nat) (A : Nat → Addr) (o : Opn) (cur : Array Value) (X : WS) (c0 c1 : Cfg) (m0 m1 : Option Nat) (D0 D1 : DataW Unit) (w : World) (h : WAt w L gw A cur X) (hc0 : CfgAt w L cur 0 c0 m0 D0) (hc1 : CfgAt w L cur 1 c1 m1 D1) (hx : StepOk cur X) (ho : o.Ok) :
    Calls Tryz.prog 18 #[.pointer (some ⟨gw, 0, none⟩), o.val] w fun e w' => e = .returned (.bool true) ∧ Stepped w L gw A cur X w' := by
  by_cases h1 : o.k = 1
  · exact (step_open L gw A o cur X c0 c1 m0 m1 D0 D1 w h hc0 hc1 ho h1 hx.t4 hx.s4 hx.np).mono (fun e w' h => ⟨h.1, h.2.1⟩)
  by_cases h2 : o.k < 1 ∨ 7 < o.k
  · exact step_skip L gw A o cur X w h h2 hx
  · exact step_do L gw A o cur X w h hx ho (by omega)
end Go.Proofs.YtojpjaifhjigfaaGreatDoor

/- What UpTo stands on: the script, the world as it is played. -/
namespace Go.Proofs.YtojpjaifhjigfaaGreatDoor
open Go.RowKit Go.Maps

def zeroCfg : Cfg := { d := 0, q := 0, at' := 0, ba := 0, ca := 0, ti := 0, wi := 0, le := 0, th := 0, op := 0 }
theorem cell_far (w : World) (o o' : Nat) (v : Value) {b b' : Nat} (h : b ≠ b') : (w.setCell ⟨b', o', none⟩ v).cell? ⟨b, o, none⟩ = w.cell? ⟨b, o, none⟩ := World.cell?_of_block (heap_setCell_other _ _ _ _ h)
theorem tenAt_below {w w' : World} {a : Option Addr} {ts : List (List UInt8 × Int)} (h : TenAt w a ts) (hb : Below w.heap.size w w') : TenAt w' a ts := by
  rcases h with h | ⟨b, off, h1, h2, h3⟩
  · exact Or.inl h
  · refine Or.inr ⟨b, off, h1, Nat.lt_of_lt_of_le h2 hb.size, fun k hk => ?_⟩
    rw [hb.cell (p := ⟨b, _, none⟩) h2, hb.cell (p := ⟨b, _, none⟩) h2]
    exact h3 k hk
theorem tenAt_drew {w : World} {a : Option Addr} {ts : List (List UInt8 × Int)} (h : TenAt w a ts) : TenAt w.drew a ts := tenAt_below h (Below.refl _ _).drew

theorem config_ex (g : Nat) (w : World) (h : TenAt w (some ⟨g, 0, none⟩) exTs) : Calls Tryz.prog 15 #[exCfg.val none, .slice (some ⟨g, 0, none⟩) 2 2] w fun e w' => ∃ m', e = .returned (exCfg.val m') ∧ MapAt w' m' (DT exTs) ∧ (∀ b, m' = some b → w.heap.size ≤ b) ∧ Below w.heap.size w w' :=
  config_any exCfg none (some ⟨g, 0, none⟩) 2 exTs w ex_ok h

/-- A script in memory. -/
def OpsAt (w : World) (a : Option Addr) (os : List Opn) : Prop := os = [] ∨ ∃ b off, a = some ⟨b, off, none⟩ ∧ b < w.heap.size ∧ ∀ k o, os[k]? = some o → w.rangeAt b (off + k * 11) o.cells
theorem OpsAt.below {w w' : World} {a : Option Addr} {os : List Opn} (h : OpsAt w a os) (hb : Below w.heap.size w w') : OpsAt w' a os := by
  rcases h with h | ⟨b, off, h1, h2, h3⟩
  · exact Or.inl h
  · exact Or.inr ⟨b, off, h1, Nat.lt_of_lt_of_le h2 hb.size, fun k o ho j v hv => (hb.cell (p := ⟨b, _, none⟩) h2).trans (h3 k o ho j v hv)⟩

theorem infoOp : (Tryz.prog.info? 47).map (·.size) = some 11 := by kernel_rfl
theorem splice_out : ∀ (l : List Value) (cs : Array Value) (o i : Nat), i < o ∨ o + l.length ≤ i → (splice cs o l)[i]? = cs[i]? := by
  intro l
  induction l with
  | nil => intro cs o i _; rfl
  | cons v r ih =>
    intro cs o i h
    simp only [splice]
    simp only [List.length_cons] at h
    rw [ih _ _ _ (by omega), Array.getElem?_setIfInBounds_ne (by omega)]
theorem splice_in : ∀ (l : List Value) (cs : Array Value) (o j : Nat) (v : Value), o + l.length ≤ cs.size → l[j]? = some v → (splice cs o l)[o + j]? = some v := by
  intro l
  induction l with
  | nil => intro cs o j v _ h; simp at h
  | cons x r ih =>
    intro cs o j v hs h
    simp only [splice]
    simp only [List.length_cons] at hs
    cases j with
    | zero =>
      rw [splice_out r _ (o + 1) (o + 0) (by omega)]
      simp at h
      subst h
      simp [show o < cs.size by omega]
    | succ j =>
      have := ih (cs.setIfInBounds o x) (o + 1) j v (by simp; omega) (by simpa using h)
      rw [show o + (j + 1) = o + 1 + j by omega]
      exact this

theorem CfgAt.keepN {w w' : World} {L L' : Labs} {cur cur' : Array Value} {n : Nat} {c : Cfg} {m : Option Nat} {D : DataW Unit} (h : CfgAt w L cur n c m D) {p : Lab → Prop} (s : Step p L w L' w') (hp : ¬ p none) (hc : ∀ i, n * 11 ≤ i → i < n * 11 + 11 → cur'[i]? = cur[i]?) : CfgAt w' L' cur' n c m D := by
  refine ⟨fun j v hv => ?_, ?_, fun b hb => ?_⟩
  · have hj : j < 11 := (Array.getElem?_eq_some_iff.1 hv).1
    rw [hc _ (by omega) (by omega)]
    exact h.cell j v hv
  · rcases h.map with q | ⟨b, n', h1, h2, h3⟩
    · exact Or.inl q
    · exact Or.inr ⟨b, n', h1, ownsMap_of_block h2 (s.block b h2.lt (by rw [h.lab b h1]; exact hp)), h3⟩
  · rcases h.map with ⟨q, _⟩ | ⟨b', n', h1, h2, h3⟩
    · rw [hb] at q; cases q
    · rw [hb] at h1
      cases h1
      rw [s.lab _ h2.lt]
      exact h.lab _ hb

/-- A configuration is stored into the world. -/
theorem WAt.stored {w : World} {L : Labs} {gw : Nat} {A : Nat → Addr} {cur : Array Value} {X : WS} (h : WAt w L gw A cur X) (n : Nat) (hn : n < 2) (c : Cfg) {m : Option Nat} {D : DataW Unit} (hM : MapAt w m D) (hlab : ∀ b, m = some b → L b = none) :
    WAt (w.setCells gw (n * 11) (c.cells m).toList) L gw A (splice cur (n * 11) (c.cells m).toList) X ∧ CfgAt (w.setCells gw (n * 11) (c.cells m).toList) L (splice cur (n * 11) (c.cells m).toList) n c m D ∧
      (∀ i, i < n * 11 ∨ n * 11 + 11 ≤ i → (splice cur (n * 11) (c.cells m).toList)[i]? = cur[i]?) ∧ Step (fun l => l = bl 2 0) L w L (w.setCells gw (n * 11) (c.cells m).toList) := by
  have hl := (Array.getElem?_eq_some_iff.1 h.c25).1
  have hlen : (c.cells m).toList.length = 11 := rfl
  have s : Step (fun l => l = bl 2 0) L w L (w.setCells gw (n * 11) (c.cells m).toList) := Step.setCells L h.blk.2 _ _ _
  have ho : ∀ i, i < n * 11 ∨ n * 11 + 11 ≤ i → (splice cur (n * 11) (c.cells m).toList)[i]? = cur[i]? := fun i hi => splice_out _ _ _ _ (by rw [hlen]; exact hi)
  refine ⟨⟨⟨h.blk.1.setCells _ _, h.blk.2⟩, by rw [ho 22 (by omega)]; exact h.c22, by rw [ho 23 (by omega)]; exact h.c23, by rw [ho 24 (by omega)]; exact h.c24, by rw [ho 25 (by omega)]; exact h.c25, h.prs.keep s (by simp [bl]), fun i v hv => ?_, h.txt.keep s (by simp [bl]) (fun _ _ => by simp [bl]), h.snd.keep s (by simp [bl]) (fun _ _ => by simp [bl]), h.mps.keep s (by simp [bl]) (fun _ _ => by simp [bl]), h.err.keep s (by simp [bl])⟩, ⟨fun j v hv => splice_in _ _ _ _ _ (by rw [hlen]; omega) (by simpa using hv), ?_, hlab⟩, ho, s⟩
  · obtain ⟨gp, M, R, e, hP⟩ := h.pr i v hv
    exact ⟨gp, M, R, e, hP.keep s (by simp [bl]) (fun q => by simp [bl]) (fun q => by simp [bl]) (Nat.le_refl _)⟩
  · rcases hM with q | ⟨b, n', h1, h2, h3⟩
    · exact Or.inl q
    · exact Or.inr ⟨b, n', h1, ownsMap_of_block h2 (s.block b h2.lt (by rw [hlab b h1]; simp [bl])), h3⟩

/-- The cells of a World that plays up to seven. -/
abbrev wc7 (c0 c1 : Cfg) (m0 m1 : Option Nat) : Array Value :=
  #[.int .i64 c0.d, .map m0, .int .i64 c0.q, .int .i64 c0.at', .int .i64 c0.ba, .int .i64 c0.ca, .int .i64 c0.ti, .int .i64 c0.wi, .int .i64 c0.le, .float .f64 c0.th, .int .i64 c0.op,
    .int .i64 c1.d, .map m1, .int .i64 c1.q, .int .i64 c1.at', .int .i64 c1.ba, .int .i64 c1.ca, .int .i64 c1.ti, .int .i64 c1.wi, .int .i64 c1.le, .float .f64 c1.th, .int .i64 c1.op, .slice none 0 0, .slice none 0 0, .slice none 0 0, .slice none 0 0, .int .i64 7]

theorem wc7_one {c0 c1 : Cfg} {m0 m1 : Option Nat} {j : Nat} {v : Value} (h : (c1.cells m1)[j]? = some v) : (wc7 c0 c1 m0 m1)[1 * 11 + j]? = some v := by
  have hj : j < 11 := (Array.getElem?_eq_some_iff.1 h).1
  match j, hj with
  | 0, _ | 1, _ | 2, _ | 3, _ | 4, _ | 5, _ | 6, _ | 7, _ | 8, _ | 9, _ | 10, _ => exact h

/-- What is played first. -/
def firstOps : List Opn := [⟨1, 0, ⟨0, [], [], [], 0, 0⟩, 0, 0, 0, false, false⟩, ⟨2, 0, ⟨0, [97], [49], [110, 105, 110, 101, 32, 98, 121, 116, 101], 0, 0⟩, 0, 0, 0, false, false⟩, ⟨3, 0, ⟨0, [], [], [], 0, 0⟩, 0, 0, 0, false, false⟩, ⟨5, 0, ⟨0, [], [49], [], 0, 0⟩, 0, 0, 0, false, false⟩]
theorem firstOk : ∀ o ∈ firstOps, o.Ok := by
  intro o ho
  simp only [firstOps, List.mem_cons, List.not_mem_nil, or_false] at ho
  rcases ho with rfl | rfl | rfl | rfl <;> exact ⟨by decide, by decide, by decide, by decide, by simp [maxLen]⟩

/-- A world as it is played. -/
def Played (W0 : World) (L0 : Labs) (G : Nat) (A : Nat → Addr) (c d : Cfg) (m0 m1 : Option Nat) (D0 D1 : DataW Unit) (t : Nat) (w : World) : Prop :=
  ∃ L cur X, WAt w L G A cur X ∧ CfgAt w L cur 0 c m0 D0 ∧ CfgAt w L cur 1 d m1 D1 ∧ cur[26]? = some (.int .i64 7) ∧ ((1 ≤ t → 1 ≤ X.np) ∧ X.np ≤ 1 + t ∧ X.nt % 4 = 0 ∧ X.nt ≤ 8 * t ∧ X.ns % 4 = 0 ∧ X.ns ≤ 4 * t ∧ X.nm ≤ 2 * t ∧ X.t = t) ∧ Step someP L0 W0 L w

theorem Played.below {W0 w w' : World} {L0 : Labs} {G : Nat} {A : Nat → Addr} {c d : Cfg} {m0 m1 : Option Nat} {D0 D1 : DataW Unit} {t : Nat} (h : Played W0 L0 G A c d m0 m1 D0 D1 t w) (hX : Below w.heap.size w w') : Played W0 L0 G A c d m0 m1 D0 D1 t w' := by
  obtain ⟨L, cur, X, q1, q2, q3, q4, q5, q6⟩ := h
  have hs := Step.of_below (p := fun _ => False) (L := L) hX
  exact ⟨L, cur, X, q1.below hX, q2.keepN hs (fun h => h) (fun _ _ _ => rfl), q3.keepN hs (fun h => h) (fun _ _ _ => rfl), q4, q5, q6.trans (Step.of_below hX)⟩
theorem Played.step {W0 w : World} {L0 : Labs} {G : Nat} {A : Nat → Addr} {c d : Cfg} {m0 m1 : Option Nat} {D0 D1 : DataW Unit} {t : Nat} (h : Played W0 L0 G A c d m0 m1 D0 D1 t w) (h1 : 1 ≤ t) (ht : t ≤ 500000) (o : Opn) (ho : o.Ok) :
    Calls Tryz.prog 18 #[.pointer (some ⟨G, 0, none⟩), o.val] w fun e w' => e = .returned (.bool true) ∧ Played W0 L0 G A c d m0 m1 D0 D1 (t + 1) w' := by
  obtain ⟨L, cur, X, q1, q2, q3, q4, ⟨p1, p2, p3, p4, p5, p6, p7, p8⟩, q6⟩ := h
  refine (step_any L G A o cur X c d m0 m1 D0 D1 w q1 q2 q3 ⟨q4, p3, p5, p1 h1, by omega, by omega, by omega, by omega, by omega⟩ ho).mono ?_
  rintro e w' ⟨rfl, L', cur', X', r1, ⟨s1, s2, s3, s4, s5, s6, s7, s8⟩, r7, r8⟩
  have := p1 h1
  exact ⟨rfl, L', cur', X', r1, (q2.keepN r8 (by simp [someP]) (fun i _ h2 => r7 i (by omega))), (q3.keepN r8 (by simp [someP]) (fun i _ h2 => r7 i (by omega))), (r7 26 (by omega)).trans q4, ⟨fun _ => by omega, by omega, s3, by omega, s5, by omega, by omega, by omega⟩, q6.trans r8⟩
theorem Played.open {W0 w : World} {L0 : Labs} {G : Nat} {A : Nat → Addr} {c d : Cfg} {m0 m1 : Option Nat} {D0 D1 : DataW Unit} (h : Played W0 L0 G A c d m0 m1 D0 D1 0 w) (hg : GoodC c D0) (o : Opn) (ho : o.Ok) (hk : o.k = 1) (hm : pickN o.ms 2 = 0) :
    Calls Tryz.prog 18 #[.pointer (some ⟨G, 0, none⟩), o.val] w fun e w' => e = .returned (.bool true) ∧ Played W0 L0 G A c d m0 m1 D0 D1 1 w' := by
  obtain ⟨L, cur, X, q1, q2, q3, q4, ⟨p1, p2, p3, p4, p5, p6, p7, p8⟩, q6⟩ := h
  refine (step_open L G A o cur X c d m0 m1 D0 D1 w q1 q2 q3 ho hk p3 p5 (by omega)).mono ?_
  rintro e w' ⟨rfl, _, hx⟩
  obtain ⟨L', cur', X', r1, r2, r3, r4, r5, r6, r7, r8⟩ := hx hg hm
  exact ⟨rfl, L', cur', X', r1, (q2.keepN r8 (by simp [someP]) (fun i _ h2 => r7 i (by omega))), (q3.keepN r8 (by simp [someP]) (fun i _ h2 => r7 i (by omega))), (r7 26 (by omega)).trans q4, ⟨fun _ => by omega, by omega, by omega, by omega, by omega, by omega, by omega, by omega⟩, q6.trans r8⟩
theorem Played.whole {W0 w : World} {L0 : Labs} {G : Nat} {A : Nat → Addr} {c d : Cfg} {m0 m1 : Option Nat} {D0 D1 : DataW Unit} {t : Nat} (h : Played W0 L0 G A c d m0 m1 D0 D1 t w) (ht : t ≤ 500000) :
    Calls Tryz.prog 19 #[.pointer (some ⟨G, 23, none⟩)] w fun e w' => e = .returned (.bool true) ∧ Played W0 L0 G A c d m0 m1 D0 D1 t w' := by
  have h' := h
  obtain ⟨L, cur, X, q1, q2, q3, q4, ⟨p1, p2, p3, p4, p5, p6, p7, p8⟩, q6⟩ := h
  refine (wholeS_any L G X.nt X.ns X.nm X.tv X.sv X.mv cur w q1.blk q1.c23 q1.c24 q1.c25 q1.txt q1.snd q1.mps (by omega) (by omega) (by omega)).mono ?_
  rintro e w' ⟨rfl, hb⟩
  exact ⟨rfl, h'.below hb⟩
theorem Played.asked {W0 w : World} {L0 : Labs} {G : Nat} {A : Nat → Addr} {c d : Cfg} {m0 m1 : Option Nat} {D0 D1 : DataW Unit} {t : Nat} (h : Played W0 L0 G A c d m0 m1 D0 D1 t w) (ht : t ≤ 400004) :
    Calls Tryz.prog 17 #[.pointer (some ⟨G, 0, none⟩)] w fun e w' => e = .returned (.bool true) ∧ ∃ L', Step someP L0 W0 L' w' := by
  obtain ⟨L, cur, X, q1, q2, q3, q4, ⟨p1, p2, p3, p4, p5, p6, p7, p8⟩, q6⟩ := h
  refine (asked_any L G A cur X w q1 p3 (by omega) (by omega) (by omega)).mono ?_
  rintro e w' ⟨rfl, L', hs⟩
  exact ⟨rfl, L', q6.trans hs⟩
theorem Played.kept {W0 w : World} {L0 : Labs} {G : Nat} {A : Nat → Addr} {c d : Cfg} {m0 m1 : Option Nat} {D0 D1 : DataW Unit} {t : Nat} (h : Played W0 L0 G A c d m0 m1 D0 D1 t w) : (∃ L, Step someP L0 W0 L w) ∧ G < w.heap.size := by
  obtain ⟨L, cur, X, q1, q2, q3, q4, q5, q6⟩ := h
  exact ⟨⟨L, q6⟩, q1.blk.1.lt⟩
/-- Blocks that nobody owned stay. -/
theorem Played.old {W0 w : World} {L0 : Labs} {G : Nat} {A : Nat → Addr} {c d : Cfg} {m0 m1 : Option Nat} {D0 D1 : DataW Unit} {t : Nat} (h : Played W0 L0 G A c d m0 m1 D0 D1 t w) {B : Nat} (hB : B ≤ W0.heap.size) (hn : ∀ k, k < B → L0 k = none) : Below B W0 w := by
  obtain ⟨⟨L, hs⟩, _⟩ := h.kept
  exact hs.below hB (fun k hk => by rw [hn k hk]; simp [someP])
theorem setCells_append (g : Nat) : ∀ (a b : List Value) (w : World) (o : Nat), w.setCells g o (a ++ b) = (w.setCells g o a).setCells g (o + a.length) b
  | [], b, w, o => rfl
  | v :: r, b, w, o => by
    show (w.setCell ⟨g, o, none⟩ v).setCells g (o + 1) (r ++ b) = ((w.setCell ⟨g, o, none⟩ v).setCells g (o + 1) r).setCells g (o + (r.length + 1)) b
    rw [setCells_append g r b _ (o + 1), show o + 1 + r.length = o + (r.length + 1) by omega]
set_option maxHeartbeats 1000000 in
/-- Other configurations are stored. -/
theorem Played.stored {W0 w : World} {L0 : Labs} {G : Nat} {A : Nat → Addr} {c d c' d' : Cfg} {m0 m1 m0' m1' : Option Nat} {D0 D1 D0' D1' : DataW Unit} {t : Nat} (h : Played W0 L0 G A c d m0 m1 D0 D1 t w) (hM0 : MapAt w m0' D0') (hM1 : MapAt w m1' D1') (hn0 : ∀ b, m0' = some b → L0 b = none ∧ b < W0.heap.size) (hn1 : ∀ b, m1' = some b → L0 b = none ∧ b < W0.heap.size) :
    Played W0 L0 G A c' d' m0' m1' D0' D1' t (w.setCells G 0 ((c'.cells m0').toList ++ (d'.cells m1').toList)) := by
  obtain ⟨L, cur, X, q1, q2, q3, q4, q5, q6⟩ := h
  obtain ⟨r1, r2, r3, r4⟩ := q1.stored 0 (by omega) c' hM0 (fun b hb => by rw [q6.lab b (hn0 b hb).2]; exact (hn0 b hb).1)
  have hM1' : MapAt (w.setCells G (0 * 11) (c'.cells m0').toList) m1' D1' := by
    rcases hM1 with q | ⟨b, n', h1, h2, h3⟩
    · exact Or.inl q
    · exact Or.inr ⟨b, n', h1, ownsMap_of_block h2 (r4.block b h2.lt (by rw [q6.lab b (hn1 b h1).2, (hn1 b h1).1]; simp [bl])), h3⟩
  obtain ⟨s1, s2, s3, s4⟩ := r1.stored 1 (by omega) d' hM1' (fun b hb => by rw [q6.lab b (hn1 b hb).2]; exact (hn1 b hb).1)
  have e : w.setCells G 0 ((c'.cells m0').toList ++ (d'.cells m1').toList) = (w.setCells G (0 * 11) (c'.cells m0').toList).setCells G (1 * 11) (d'.cells m1').toList := setCells_append G _ _ w 0
  rw [e]
  clear e
  exact ⟨L, _, X, s1, r2.keepN s4 (by simp [bl]) (fun i h1 h2 => s3 i (by omega)), s2, (s3 26 (by omega)).trans ((r3 26 (by omega)).trans q4), q5, q6.trans ((r4.trans s4).mono (fun l h => by rw [h]; simp [someP, bl]))⟩

theorem flat_range {l : List Opn} {k : Nat} {o : Opn} {w : World} {g : Nat} {cur : Array Value} (hb : Blk w g cur 47) (hc : ∀ (j : Nat) (v : Value), (l.flatMap Opn.cells)[j]? = some v → cur[j]? = some v) (ho : l[k]? = some o) : w.rangeAt g (k * 11) o.cells := fun j v hv => by
  rw [hb.cell]
  exact hc _ _ (flat_cell Opn.cells 11 Opn.cells_length ho (by have := (List.getElem?_eq_some_iff.1 hv).1; rw [Opn.cells_length] at this; exact this) hv)
end Go.Proofs.YtojpjaifhjigfaaGreatDoor
