/- Steps of the proof (several texts in one): AllTicks, AllReply, AllStood. -/
import Derived.Test.YtojpjaifhjigfaaGreatDoorMAllupto32

/- (*World).ticks. -/
namespace Go.Proofs.YtojpjaifhjigfaaGreatDoor
open Go.RowKit Go.Maps

/-- A step of a script. -/
structure Opn where
  k : Int
  ag : Int
  b : Bat
  d : Int
  ms : Int
  dr : Int
  gd : Bool
  ys : Bool
def Opn.cells (o : Opn) : List Value := [.int .i64 o.k, .int .i64 o.ag, .int .i64 o.b.dst, encStr o.b.ten, encStr o.b.id, encStr o.b.body, .int .i64 o.d, .int .i64 o.ms, .int .i64 o.dr, .bool o.gd, .bool o.ys]
def Opn.val (o : Opn) : Value := .agg o.cells.toArray
theorem Opn.cells_length (o : Opn) : o.cells.length = 11 := rfl
structure Opn.Ok (o : Opn) : Prop where
  a0 : -9223372036854775808 ≤ o.ag
  a1 : o.ag ≤ 9223372036854775807
  m0 : -9223372036854775808 ≤ o.ms
  m1 : o.ms ≤ 9223372036854775807
  tl : o.b.ten.length ≤ maxLen

theorem is_any (A : Nat → Addr) (n : Nat) (w : World) (hS : Sents.Holds w 260 gl 11 A) (hn : n ≤ 11) : Calls Tryz.prog 49 #[errV A n, .int .i64 n] w fun e w' => e = .returned (.bool true) ∧ Below w.heap.size w w' := by
  cases n with
  | zero =>
    refine (is_ok w).mono ?_
    rintro e w' ⟨rfl, rfl⟩
    exact ⟨rfl, Below.refl _ _⟩
  | succ k => exact is_err A k w hS (by omega)
theorem tickNo_le (ms draw : Int) : tickNo ms draw ≤ 11 := by
  unfold tickNo
  split <;> omega
theorem Sd.cell4 {out : List Sd} {k : Nat} {s : Sd} (h : out[k]? = some s) {j : Nat} {v : Value} (hj : j < 4) (hv : s.cells[j]? = some v) : (out.flatMap Sd.cells)[k * 4 + j]? = some v := flat_cell Sd.cells 4 (fun _ => rfl) h hj hv

set_option maxRecDepth 100000 in
set_option maxHeartbeats 4000000 in
theorem ticks_core (L : Labs) (gw gp : Nat) (A : Nat → Addr) (o : Opn) (cur : Array Value) (X : WS) (i : Nat) (w : World) (hLn : ∀ k, w.heap.size ≤ k → L k = none) (h : WAt w L gw A cur X) (hv : X.ps[i]? = some (.pointer (some ⟨gp, 0, none⟩))) (h4 : X.ns % 4 = 0) (hns : X.ns ≤ 8000000) (ht : X.t + 1 ≤ 1000000000000) :
    Calls Tryz.prog 50 #[.pointer (some ⟨gw, 0, none⟩), .pointer (some ⟨gp, 0, none⟩), o.val] w fun e w' => e = .returned (.bool true) ∧ ∃ L' sv', WAt w' L' gw A (cur.setIfInBounds 24 sv') { X with sv := sv', ns := X.ns + 4, t := X.t + 1, ag := upd X.ag i ((X.ag i).tickTo o.ms o.dr), rf := upd X.rf i ((X.rf i).tickTo o.ms o.dr) } ∧ Step someP L w L' w' := by
  obtain ⟨gp', ev, hP⟩ := h.pr i _ hv
  obtain rfl : gp = gp' := by simpa using ev
  obtain ⟨gx, gy, hpb, hA, hR, hSim, hInv, _, _⟩ := hP
  generalize hMx : X.ag i = M at *
  generalize hRx : X.rf i = R at *
  clear hMx hRx
  have p0 : w.cell? ⟨gp, 0, none⟩ = some (.pointer (some ⟨gx, 0, none⟩)) := hpb.1.cell 0
  have p1 : w.cell? ⟨gp, 1, none⟩ = some (.pointer (some ⟨gy, 0, none⟩)) := hpb.1.cell 1
  have hgpl := hpb.1.lt
  have H := hide h
  have Hv := hide hv
  have HPb := hide hpb
  have HA := hide hA
  have HR := hide hR
  have HSim := hide hSim
  have HInv := hide hInv
  have HLn := hide hLn
  have h11 := tickNo_le o.ms o.dr
  have HSo := hide (sim_tickTo (ms := o.ms) (draw := o.dr) hSim hInv (by omega))
  have hol : (M.tickOut o.ms o.dr).length ≤ 4 := by
    unfold Ag.tickOut
    split
    · unfold Ag.ticked
      have h1 := sentOut_len ((M.later o.ms).timed o.dr) ((M.later o.ms).timed o.dr).os.length
      rename_i hb
      obtain ⟨b1, b2, b3⟩ := tickB_true hb
      have h2 := ((hInv.later b1 b2).timed (by omega) b3 (by have := hInv.lg; show M.log.length + 15 ≤ _; omega)).1.ol
      have h3 := (Cfg.num_d ((hInv.later b1 b2).timed (by omega) b3 (by have := hInv.lg; show M.log.length + 15 ≤ _; omega)).1.good.1).2
      omega
    · simp
  generalize hout : M.tickOut o.ms o.dr = out at *
  obtain ⟨D, hD⟩ : ∃ D, out.length = D := ⟨_, rfl⟩
  have Hout := hide hout
  clear h hv hpb hA hR hSim hInv hLn ev hout
  unfold Opn.val
  go_enter Tryz.func50, Tryz.ntmps50
  go_wp2_with fail
  generalize hV : World.alloc w _ = V
  have hBV : Below w.heap.size w V := by rw [← hV]; exact (Below.refl w.heap.size w).alloc (Nat.le_refl _) _
  have hNV : Blk V w.heap.size o.cells.toArray 47 := by rw [← hV]; exact Blk.new w _ _
  have HNV : Hid (BlkAt V L none w.heap.size o.cells.toArray 47) := ⟨hNV, HLn.out _ (Nat.le_refl _)⟩
  have f7 : V.cell? ⟨w.heap.size, 7, none⟩ = some (.int .i64 o.ms) := hNV.cell 7
  have f8 : V.cell? ⟨w.heap.size, 8, none⟩ = some (.int .i64 o.dr) := hNV.cell 8
  have q0 : V.cell? ⟨gp, 0, none⟩ = some (.pointer (some ⟨gx, 0, none⟩)) := (hBV.cell (p := ⟨gp, 0, none⟩) hgpl).trans p0
  have hnl := hNV.lt
  have hgpV : gp < V.heap.size := by have := hBV.size; omega
  have HBV := hide hBV
  have HS0 : Hid (Step (fun _ => False) L w L V) := Step.of_below hBV
  have HPbV := hide (HPb.out.keep HS0.out (fun h => h))
  have HTk : Hid (∀ w2, Below V.heap.size V w2 → Calls Tryz.prog 30 #[.pointer (some ⟨gx, 0, none⟩), .int .i64 o.ms, .int .i64 o.dr] w2 fun e w' => LTicked V L (2 * i + 1) gx (bl 6 (X.ns / 4)) D (M.tickTo o.ms o.dr) out (errV A (tickNo o.ms o.dr)) e w') := fun w2 hb => by
    have hB : Below w.heap.size w w2 := HBV.out.trans (hb.mono HBV.out.size)
    have := law_tick A L (2 * i + 1) gx X.t M o.ms o.dr w2 (bl 6 (X.ns / 4)) (H.out.err.hs.below hB) (HA.out.keep (Step.of_below (p := fun _ => False) hB) (fun _ h => h)) HInv.out ht
    rw [Hout.out, hD] at this
    refine this.mono ?_
    rintro e w' ⟨v, L2, r1, r2, r3, r4, r5⟩
    exact ⟨v, L2, r1, r2, r3, r4, (Step.of_below hb).trans r5⟩
  generalize hev : errV A (tickNo o.ms o.dr) = ev0 at *
  have Hev := hide hev
  clear hV p0 hBV hNV hev
  go_upto_region 1 with fail
  go_cut [7, 8] (fun s7 s8 wx => ∃ L2 va vc, s7 = .slice va D vc ∧ s8 = ev0 ∧ RowAt wx L2 (bl 6 (X.ns / 4)) 68 4 (.slice va D vc) D (out.flatMap Sd.cells) ∧ AgentAt wx L2 (2 * i + 1) gx (M.tickTo o.ms o.dr) ∧ Step (ofP (2 * i + 1)) L V L2 wx)
  case first =>
    go_region_held3 (fun w' => w'.cell? ⟨gp, 0, none⟩ = some (.pointer (some ⟨gx, 0, none⟩)) ∧ w'.cell? ⟨w.heap.size, 7, none⟩ = some (.int .i64 o.ms) ∧ w'.cell? ⟨w.heap.size, 8, none⟩ = some (.int .i64 o.dr)) (go_keep)
      (first | (go_at_call 30; refine (HTk.out _ (by first | exact Below.refl _ _ | exact (Below.refl _ _).drew)).mono ?_; rintro e w2 ⟨v2, L2, rfl, r2, r3, r4, r5⟩; obtain ⟨va, vc, rfl, _⟩ := r2.shape; have hn2 := HNV.out.keep r5 (by rintro ⟨q, hq⟩; cases hq); have hp2 := HPbV.out.keep r5 (not_ofP (by omega) _); have z7 : w2.cell? ⟨w.heap.size, 7, none⟩ = some (.int .i64 o.ms) := hn2.1.cell 7; have z8 : w2.cell? ⟨w.heap.size, 8, none⟩ = some (.int .i64 o.dr) := hn2.1.cell 8; have z0 : w2.cell? ⟨gp, 0, none⟩ = some (.pointer (some ⟨gx, 0, none⟩)) := hp2.1.cell 0; have Hr2 := hide r2; have Hr4 := hide r4; have Hr5 := hide r5; clear r2 r3 r4 r5 hn2 hp2))
    all_goals (go_wp2_with fail; go_meet; exact ⟨L2, va, vc, rfl, rfl, Hr2.out, Hr4.out, Hr5.out⟩)
  case rest =>
  obtain ⟨L2, va, vc, rfl, rfl, hrw2, hA2, hS2⟩ := hcut
  generalize hwc : wc = W2 at *
  have hN2 := HNV.out.keep hS2 (by rintro ⟨q, hq⟩; cases hq)
  have hPb2 := HPbV.out.keep hS2 (not_ofP (by omega) _)
  have g7 : W2.cell? ⟨w.heap.size, 7, none⟩ = some (.int .i64 o.ms) := hN2.1.cell 7
  have g8 : W2.cell? ⟨w.heap.size, 8, none⟩ = some (.int .i64 o.dr) := hN2.1.cell 8
  have q1 : W2.cell? ⟨gp, 1, none⟩ = some (.pointer (some ⟨gy, 0, none⟩)) := hPb2.1.cell 1
  have hR2 := (HR.out.keep HS0.out (fun _ h => h)).keep hS2 (fun q => not_ofP (by omega) q)
  have hnl2 := hN2.1.lt
  have hgp2 := hPb2.1.lt
  have HRT : Hid (∀ w3, Below W2.heap.size W2 w3 → Calls Tryz.prog 88 #[.pointer (some ⟨gy, 0, none⟩), .int .i64 o.ms, .int .i64 o.dr] w3 fun e w' => RTicked W2 L2 (2 * i + 2) gy D (R.tickTo o.ms o.dr) out (.int .i64 (tickNo o.ms o.dr)) e w') := fun w3 hb => by
    have := law_refTick L2 (2 * i + 2) gy X.t M R o.ms o.dr w3 (hR2.keep (Step.of_below (p := fun _ => False) hb) (fun _ h => h)) HSim.out HInv.out ht
    rw [Hout.out, hD] at this
    refine this.mono ?_
    rintro e w' ⟨v, L3, l, r1, r2, r3, r4⟩
    exact ⟨v, L3, l, r1, r2, r3, (Step.of_below hb).trans r4⟩
  have HN2 := hide hN2
  have HPb2 := hide hPb2
  have HA2 := hide hA2
  have HS2 := hide hS2
  have Hrw2 := hide hrw2
  generalize htn : tickNo o.ms o.dr = tn at *
  clear hwc hN2 hPb2 hR2 hA2 hS2 hrw2 q0 f7 f8 HTk htn
  go_upto_region 2 with fail
  go_cut [9, 10] (fun s9 s10 wx => ∃ L3 ua uc l3, s9 = .slice ua D uc ∧ s10 = .int .i64 tn ∧ RowAt wx L3 l3 68 4 (.slice ua D uc) D (out.flatMap Sd.cells) ∧ RefAt wx L3 (2 * i + 2) gy (R.tickTo o.ms o.dr) ∧ Step (ofP (2 * i + 2)) L2 W2 L3 wx)
  case first =>
    go_region_held3 (fun w' => w'.cell? ⟨gp, 1, none⟩ = some (.pointer (some ⟨gy, 0, none⟩)) ∧ w'.cell? ⟨w.heap.size, 7, none⟩ = some (.int .i64 o.ms) ∧ w'.cell? ⟨w.heap.size, 8, none⟩ = some (.int .i64 o.dr)) (go_keep)
      (first | (go_at_call 88; refine (HRT.out _ (by first | exact Below.refl _ _ | exact (Below.refl _ _).drew)).mono ?_; rintro e w3 ⟨v3, L3, l3, rfl, r2, r4, r5⟩; obtain ⟨ua, uc, rfl, _⟩ := r2.shape; have hn2 := HN2.out.keep r5 (by rintro ⟨q, hq⟩; cases hq); have hp2 := HPb2.out.keep r5 (not_ofP (by omega) _); have z7 : w3.cell? ⟨w.heap.size, 7, none⟩ = some (.int .i64 o.ms) := hn2.1.cell 7; have z8 : w3.cell? ⟨w.heap.size, 8, none⟩ = some (.int .i64 o.dr) := hn2.1.cell 8; have z1 : w3.cell? ⟨gp, 1, none⟩ = some (.pointer (some ⟨gy, 0, none⟩)) := hp2.1.cell 1; have Hr2 := hide r2; have Hr4 := hide r4; have Hr5 := hide r5; clear r2 r4 r5 hn2 hp2))
    all_goals (go_wp2_with fail; go_meet; exact ⟨L3, ua, uc, l3, rfl, rfl, Hr2.out, Hr4.out, Hr5.out⟩)
  case rest =>
  obtain ⟨L3, ua, uc, l3, rfl, rfl, hrw3, hR3, hS3⟩ := hcut
  generalize hwc : wc = W3 at *
  have hst : Step (fun l => ofP (2 * i + 1) l ∨ ofP (2 * i + 2) l) L V L3 W3 := (HS2.out.mono (fun l h => Or.inl h)).trans (hS3.mono (fun l h => Or.inr h))
  have HW3 := hide ((H.out.step HS0.out).agents Hv.out HPbV.out (HA2.out.keep hS3 (fun q => not_ofP (by omega) q)) hR3 HSo.out.1 HSo.out.2 (Nat.le_succ _) hst)
  have HStV : Hid (Step someP L w L3 W3) := (HS0.out.mono (fun _ h => h.elim)).trans (hst.mono (fun l h => by rcases h with ⟨q, rfl⟩ | ⟨q, rfl⟩ <;> simp [someP]))
  have HrwA : Hid (RowAt W3 L3 (bl 6 (X.ns / 4)) 68 4 (.slice va D vc) D (out.flatMap Sd.cells)) := Hrw2.out.keep hS3 (not_ofP (by omega) _)
  have HrwB := hide hrw3
  have HIs := hide (is_any A tn W3 HW3.out.err.hs h11)
  rw [Hev.out] at HIs
  clear hwc hrw3 hR3 hS3 hst q1 g7 g8 HRT Hrw2 HA2
  go_wp2_with fail
  refine HIs.out.mono ?_
  rintro e w4 ⟨rfl, hb4⟩
  have HB4 := hide hb4
  have hz4 : W3.heap.size ≤ w4.heap.size := hb4.size
  clear hb4 HIs
  go_wp2_with fail
  go_loopw [12, 13] (fun s i wr => ∃ k : Nat, k ≤ D ∧ i = .int .i64 k ∧ s = .bool true ∧ Below W3.heap.size W3 wr) (fun _ i _ => D - (intOf i).toNat)
  case atStart => exact ⟨0, Nat.zero_le _, rfl, rfl, HB4.out⟩
  case round =>
    obtain ⟨k, hk, rfl, rfl, hnx⟩ := hrel
    have Hnx := hide hnx
    by_cases hlt : k < D
    · have hltI : (k : Int) < (D : Int) := by omega
      obtain ⟨s, hs⟩ : ∃ s, out[k]? = some s := ⟨_, List.getElem?_eq_getElem (by omega)⟩
      obtain ⟨ga, ea, hga, _, hca, _⟩ := HrwA.out.head (by omega)
      obtain ⟨gb, eb, hgb, _, hcb, _⟩ := HrwB.out.head (by omega)
      subst ea
      subst eb
      have x0 : wr.cell? ⟨ga, k * 4, none⟩ = some (.int .i64 s.d) := (hnx.cell (p := ⟨ga, _, none⟩) hga).trans (hca _ _ (Sd.cell4 hs (j := 0) (by omega) rfl))
      have x1 : wr.cell? ⟨ga, k * 4 + 1, none⟩ = some (.int .i64 s.try') := (hnx.cell (p := ⟨ga, _, none⟩) hga).trans (hca _ _ (Sd.cell4 hs (j := 1) (by omega) rfl))
      have x2 : wr.cell? ⟨ga, k * 4 + 2, none⟩ = some (encStr s.id) := (hnx.cell (p := ⟨ga, _, none⟩) hga).trans (hca _ _ (Sd.cell4 hs (j := 2) (by omega) rfl))
      have x3 : wr.cell? ⟨ga, k * 4 + 3, none⟩ = some (encStr s.body) := (hnx.cell (p := ⟨ga, _, none⟩) hga).trans (hca _ _ (Sd.cell4 hs (j := 3) (by omega) rfl))
      have y0 : wr.cell? ⟨gb, k * 4, none⟩ = some (.int .i64 s.d) := (hnx.cell (p := ⟨gb, _, none⟩) hgb).trans (hcb _ _ (Sd.cell4 hs (j := 0) (by omega) rfl))
      have y1 : wr.cell? ⟨gb, k * 4 + 1, none⟩ = some (.int .i64 s.try') := (hnx.cell (p := ⟨gb, _, none⟩) hgb).trans (hcb _ _ (Sd.cell4 hs (j := 1) (by omega) rfl))
      have y2 : wr.cell? ⟨gb, k * 4 + 2, none⟩ = some (encStr s.id) := (hnx.cell (p := ⟨gb, _, none⟩) hgb).trans (hcb _ _ (Sd.cell4 hs (j := 2) (by omega) rfl))
      have y3 : wr.cell? ⟨gb, k * 4 + 3, none⟩ = some (encStr s.body) := (hnx.cell (p := ⟨gb, _, none⟩) hgb).trans (hcb _ _ (Sd.cell4 hs (j := 3) (by omega) rfl))
      generalize s.d = sd at *
      generalize s.try' = st at *
      generalize s.id = si at *
      generalize s.body = sb at *
      clear hs hca hcb hnx
      go_wp2_with fail
      go_quiet (fail)
      go_wp2_with fail
      go_roundw
      case rel => exact ⟨k + 1, by omega, by go_num, by simp, (below_drewN Hnx.out _)⟩
      case measure => simp [intOf]; omega
    · have hkD : D = k := by omega
      subst hkD
      have HWr := hide (HW3.out.below Hnx.out)
      have hks := keepSends_any L3 gw X.ns va D vc X.sv _ cur wr HWr.out.blk HWr.out.c24 HWr.out.snd h4 hns (by omega) (HrwA.out.keep (Step.of_below (p := fun _ => False) Hnx.out) (fun h => h))
      have HKs := hide hks
      clear hnx hks
      go_wp2_with fail
      refine HKs.out.mono ?_
      rintro e w6 ⟨rfl, L6, sv6, hK6, hT6, hS6⟩
      have HW6 := hide (HWr.out.send hK6 hT6 hS6)
      have HS6 : Hid (Step someP L w L6 w6) := (HStV.out.trans (Step.of_below Hnx.out)).trans (hS6.mono (fun l h => by rcases h with rfl | rfl | rfl <;> simp [someP, bl]))
      clear hK6 hT6 hS6
      go_wp2_with fail
      go_ret
      exact ⟨rfl, L6, sv6, HW6.out, HS6.out⟩
end Go.Proofs.YtojpjaifhjigfaaGreatDoor

/- (*pair).reply. -/
namespace Go.Proofs.YtojpjaifhjigfaaGreatDoor
open Go.RowKit Go.Maps

/-- Which try a script's step speaks of. -/
def tryB (R : Rf) (o : Opn) : Bool := !o.ys && decide (0 ≤ o.d) && decide (o.d < R.c.d)
def Rf.tryOf (R : Rf) (o : Opn) : Int := if tryB R o = true then ((R.ls[o.d.toNat]?).map (·.sends)).getD 0 else o.ms

set_option maxRecDepth 100000 in
set_option maxHeartbeats 4000000 in
theorem pReply_core (L : Labs) (gw gp : Nat) (A : Nat → Addr) (o : Opn) (cur : Array Value) (X : WS) (i : Nat) (w : World) (hLn : ∀ k, w.heap.size ≤ k → L k = none) (h : WAt w L gw A cur X) (hv : X.ps[i]? = some (.pointer (some ⟨gp, 0, none⟩))) (ht : X.t + 1 ≤ 1000000000000) :
    Calls Tryz.prog 51 #[.pointer (some ⟨gp, 0, none⟩), o.val] w fun e w' => e = .returned (.bool true) ∧ ∃ L', WAt w' L' gw A cur { X with t := X.t + 1, ag := upd X.ag i ((X.ag i).answered (X.rf i) o.d ((X.rf i).tryOf o) o.gd o.dr), rf := upd X.rf i ((X.rf i).answered o.d ((X.rf i).tryOf o) o.gd o.dr) } ∧ Step someP L w L' w' := by
  obtain ⟨gp', ev, hP⟩ := h.pr i _ hv
  obtain rfl : gp = gp' := by simpa using ev
  obtain ⟨gx, gy, hpb, hA, hR, hSim, hInv, _, _⟩ := hP
  generalize hMx : X.ag i = M at *
  generalize hRx : X.rf i = R at *
  clear hMx hRx
  have p0 : w.cell? ⟨gp, 0, none⟩ = some (.pointer (some ⟨gx, 0, none⟩)) := hpb.1.cell 0
  have p1 : w.cell? ⟨gp, 1, none⟩ = some (.pointer (some ⟨gy, 0, none⟩)) := hpb.1.cell 1
  have hgpl := hpb.1.lt
  have H := hide h
  have Hv := hide hv
  have HPb := hide hpb
  have HA := hide hA
  have HR := hide hR
  have HSim := hide hSim
  have HInv := hide hInv
  have HLn := hide hLn
  have hdd := Cfg.num_d hInv.good.1
  rw [← hSim.c] at hdd
  obtain ⟨nv, qv, bv, dv, la, lk, hAt⟩ := hR
  have hln := hAt.ln
  have hgyl := hAt.blk.1.lt
  have c15 : w.cell? ⟨gy, 15, none⟩ = some (.slice la R.c.d.toNat lk) := hAt.blk.1.cell 15
  have htn : ((R.c.d.toNat : Nat) : Int) = R.c.d := Int.toNat_of_nonneg (by omega)
  have HAt := hide hAt
  clear h hv hpb hA hSim hInv hLn ev hAt
  unfold Opn.val
  go_enter Tryz.func51, Tryz.ntmps51
  go_upto_region 1 with fail
  generalize hV : World.alloc w _ = V
  have hBV : Below w.heap.size w V := by rw [← hV]; exact (Below.refl w.heap.size w).alloc (Nat.le_refl _) _
  have hNV : Blk V w.heap.size o.cells.toArray 47 := by rw [← hV]; exact Blk.new w _ _
  have HNV : Hid (BlkAt V L none w.heap.size o.cells.toArray 47) := ⟨hNV, HLn.out _ (Nat.le_refl _)⟩
  have f6 : V.cell? ⟨w.heap.size, 6, none⟩ = some (.int .i64 o.d) := hNV.cell 6
  have f7 : V.cell? ⟨w.heap.size, 7, none⟩ = some (.int .i64 o.ms) := hNV.cell 7
  have f8 : V.cell? ⟨w.heap.size, 8, none⟩ = some (.int .i64 o.dr) := hNV.cell 8
  have f9 : V.cell? ⟨w.heap.size, 9, none⟩ = some (.bool o.gd) := hNV.cell 9
  have f10 : V.cell? ⟨w.heap.size, 10, none⟩ = some (.bool o.ys) := hNV.cell 10
  have q0 : V.cell? ⟨gp, 0, none⟩ = some (.pointer (some ⟨gx, 0, none⟩)) := (hBV.cell (p := ⟨gp, 0, none⟩) hgpl).trans p0
  have q1 : V.cell? ⟨gp, 1, none⟩ = some (.pointer (some ⟨gy, 0, none⟩)) := (hBV.cell (p := ⟨gp, 1, none⟩) hgpl).trans p1
  have d15 : V.cell? ⟨gy, 15, none⟩ = some (.slice la R.c.d.toNat lk) := (hBV.cell (p := ⟨gy, 15, none⟩) hgyl).trans c15
  have hnl := hNV.lt
  have hVs := hBV.size
  have hgpV : gp < V.heap.size := by omega
  have hgyV : gy < V.heap.size := by omega
  have HBV := hide hBV
  have HS0 : Hid (Step (fun _ => False) L w L V) := Step.of_below hBV
  have HPbV := hide (HPb.out.keep HS0.out (fun h => h))
  clear hV p0 p1 c15 hNV
  go_upto_region 2 with fail
  go_cut [30] (fun s wx => s = .bool (tryB R o) ∧ Below V.heap.size V wx)
  case first =>
    have HBr := hide (fun q => below_drewN (Below.refl V.heap.size V) q)
    cases hys : o.ys
    · rw [hys] at f10
      by_cases h0 : 0 ≤ o.d
      · have h0d : decide (0 ≤ o.d) = true := by simpa using h0
        by_cases h1 : o.d < R.c.d
        · have h1n : o.d < ((R.c.d.toNat : Nat) : Int) := by omega
          have h1d : decide (o.d < ((R.c.d.toNat : Nat) : Int)) = true := by simpa using h1n
          have HB : Hid (tryB R o = true) := by show _ = _; unfold tryB; rw [hys, h0d]; simpa using h1
          go_quiet (fail)
          go_wp2_with fail
          go_meet
          exact ⟨by rw [HB.out], HBr.out _⟩
        · have h1n : ¬ o.d < ((R.c.d.toNat : Nat) : Int) := by omega
          have h1d : decide (o.d < ((R.c.d.toNat : Nat) : Int)) = false := by simpa using h1n
          have HB : Hid (tryB R o = false) := by show _ = _; unfold tryB; rw [hys, h0d]; simpa using h1
          go_quiet (fail)
          go_wp2_with fail
          go_meet
          exact ⟨by rw [HB.out], HBr.out _⟩
      · have h0d : decide (0 ≤ o.d) = false := by simpa using h0
        have HB : Hid (tryB R o = false) := by show _ = _; unfold tryB; rw [hys, h0d]; rfl
        go_quiet (fail)
        go_wp2_with fail
        go_meet
        exact ⟨by rw [HB.out], HBr.out _⟩
    · rw [hys] at f10
      have HB : Hid (tryB R o = false) := by show _ = _; unfold tryB; rw [hys]; rfl
      go_quiet (fail)
      go_wp2_with fail
      go_meet
      exact ⟨by rw [HB.out], HBr.out _⟩
  case rest =>
  obtain ⟨rfl, hb1⟩ := hcut
  generalize hwc : wc = W1 at *
  have HB1 := hide hb1
  have hz1 := hb1.size
  have HCl : Hid (∀ b j v, b < V.heap.size → V.cell? ⟨b, j, none⟩ = some v → W1.cell? ⟨b, j, none⟩ = some v) := fun b j v hb hv => (hb1.cell (p := ⟨b, j, none⟩) hb).trans hv
  have y6 := HCl.out _ _ _ hnl f6
  have y1 := HCl.out _ _ _ hgpV q1
  have y15 := HCl.out _ _ _ hgyV d15
  have HF : Hid (V.cell? ⟨w.heap.size, 6, none⟩ = some (.int .i64 o.d) ∧ V.cell? ⟨w.heap.size, 8, none⟩ = some (.int .i64 o.dr) ∧ V.cell? ⟨w.heap.size, 9, none⟩ = some (.bool o.gd) ∧ V.cell? ⟨gp, 0, none⟩ = some (.pointer (some ⟨gx, 0, none⟩)) ∧ V.cell? ⟨gp, 1, none⟩ = some (.pointer (some ⟨gy, 0, none⟩))) := ⟨f6, f8, f9, q0, q1⟩
  clear hwc hb1 f6 f7 f8 f9 f10 q0 q1 d15
  go_upto_if 30 with fail
  go_cut [5] (fun s5 wx => s5 = .int .i64 (R.tryOf o) ∧ Below V.heap.size V wx)
  case first =>
    cases hb : tryB R o
    · have HT : Hid (R.tryOf o = o.ms) := by show _ = _; unfold Rf.tryOf; rw [hb]; rfl
      clear hb
      go_wp2_with fail
      go_meet
      exact ⟨by rw [HT.out], HB1.out⟩
    · obtain ⟨k, hk, hkl⟩ : ∃ k : Nat, o.d = k ∧ k < R.c.d.toNat := by
        have h2 : o.ys = false ∧ 0 ≤ o.d ∧ o.d < R.c.d := by simpa [tryB, and_assoc] using hb
        exact ⟨o.d.toNat, by omega, by omega⟩
      obtain ⟨l, hl⟩ : ∃ l, R.ls[k]? = some l := ⟨_, List.getElem?_eq_getElem (by rw [hln]; exact hkl)⟩
      have HT : Hid (R.tryOf o = l.sends) := by show _ = _; unfold Rf.tryOf; rw [hb, hk, Int.toNat_natCast, hl]; rfl
      obtain ⟨gl, egl, hF⟩ := HAt.out.focus hl
      obtain ⟨ca, ck, hC⟩ := hF.cells
      subst egl
      have hkI : (k : Int) < ((R.c.d.toNat : Nat) : Int) := by omega
      have hgll := hC.lt
      have hglV : gl < V.heap.size := by omega
      have c6 : V.cell? ⟨gl, k * 9 + 6, none⟩ = some (.int .i64 l.sends) := (HBV.out.cell (p := ⟨gl, _, none⟩) hgll).trans hC.c6
      have y66 := HCl.out _ _ _ hglV c6
      rw [hk] at y6
      have HBr := hide (fun q => below_drewN HB1.out q)
      clear hb hF hC hl c6
      go_wp2_with fail
      go_quiet (fail)
      go_wp2_with fail
      go_meet
      exact ⟨by rw [HT.out], HBr.out _⟩
  case rest =>
  obtain ⟨rfl, hb2⟩ := hcut
  generalize hwc : wc = W2 at *
  have hz2 := hb2.size
  have HCm : Hid (∀ b j v, b < V.heap.size → V.cell? ⟨b, j, none⟩ = some v → W2.cell? ⟨b, j, none⟩ = some v) := fun b j v hb hv => (hb2.cell (p := ⟨b, j, none⟩) hb).trans hv
  have g6 := HCm.out _ _ _ hnl HF.out.1
  have g8 := HCm.out _ _ _ hnl HF.out.2.1
  have g9 := HCm.out _ _ _ hnl HF.out.2.2.1
  have q0 := HCm.out _ _ _ hgpV HF.out.2.2.2.1
  have hS02 : Step (fun _ => False) L V L W2 := Step.of_below hb2
  have HN2 := hide (HNV.out.keep hS02 (fun h => h))
  have HPb2 := hide (HPbV.out.keep hS02 (fun h => h))
  have HS2 : Hid (Step (fun _ => False) L w L W2) := HS0.out.trans hS02
  have HTk : Hid (∀ w3, Below W2.heap.size W2 w3 → Calls Tryz.prog 31 #[.pointer (some ⟨gx, 0, none⟩), .int .i64 o.d, .int .i64 (R.tryOf o), .bool o.gd, .int .i64 o.dr] w3 fun e w' => e = .returned (errV A (R.stale o.d (R.tryOf o) o.dr)) ∧ Turned W2 L (2 * i + 1) gx (M.answered R o.d (R.tryOf o) o.gd o.dr) w') := fun w3 hb => by
    have hs : Step (fun _ => False) L w L w3 := HS2.out.trans (Step.of_below hb)
    refine (law_reply A L (2 * i + 1) gx X.t M R o.d (R.tryOf o) o.gd o.dr w3 (H.out.step hs).err.hs (HA.out.keep hs (fun _ h => h)) HSim.out HInv.out ht).mono ?_
    rintro e w' ⟨rfl, L', r1, r2⟩
    exact ⟨rfl, L', r1, (Step.of_below hb).trans r2⟩
  have h11 := stale_le R o.d (R.tryOf o) o.dr
  generalize hev : errV A (R.stale o.d (R.tryOf o) o.dr) = ev0 at *
  have Hev := hide hev
  have hnl2 := HN2.out.1.lt
  have hgp2 := HPb2.out.1.lt
  have HSo := hide (sim_answered (d := o.d) (try' := R.tryOf o) (good := o.gd) (draw := o.dr) HSim.out HInv.out (by omega))
  clear hwc hb2 y6 y1 y15 hev hS02 HCl HCm
  generalize htr : R.tryOf o = tr at *
  have Htr := hide htr
  clear htr
  go_upto_region 4 with fail
  go_cut [6] (fun s6 wx => s6 = ev0 ∧ Turned W2 L (2 * i + 1) gx (M.answered R o.d tr o.gd o.dr) wx)
  case first =>
    go_region_held3 (fun w' => w'.cell? ⟨gp, 0, none⟩ = some (.pointer (some ⟨gx, 0, none⟩)) ∧ w'.cell? ⟨w.heap.size, 6, none⟩ = some (.int .i64 o.d) ∧ w'.cell? ⟨w.heap.size, 8, none⟩ = some (.int .i64 o.dr) ∧ w'.cell? ⟨w.heap.size, 9, none⟩ = some (.bool o.gd)) (go_keep)
      (first | (go_at_call 31; refine (HTk.out _ (by first | exact Below.refl _ _ | exact (Below.refl _ _).drew)).mono ?_; rintro e w3 ⟨rfl, L3, r4, r5⟩; have hn2 := HN2.out.keep r5 (by rintro ⟨q, hq⟩; cases hq); have hp2 := HPb2.out.keep r5 (not_ofP (by omega) _); have z6 : w3.cell? ⟨w.heap.size, 6, none⟩ = some (.int .i64 o.d) := hn2.1.cell 6; have z8 : w3.cell? ⟨w.heap.size, 8, none⟩ = some (.int .i64 o.dr) := hn2.1.cell 8; have z9 : w3.cell? ⟨w.heap.size, 9, none⟩ = some (.bool o.gd) := hn2.1.cell 9; have z0 : w3.cell? ⟨gp, 0, none⟩ = some (.pointer (some ⟨gx, 0, none⟩)) := hp2.1.cell 0; have Hr4 := hide r4; have Hr5 := hide r5; clear r4 r5 hn2 hp2))
    all_goals (go_wp2_with fail; go_meet; exact ⟨rfl, L3, Hr4.out, Hr5.out⟩)
  case rest =>
  obtain ⟨rfl, L3, hA3, hS3⟩ := hcut
  generalize hwc : wc = W3 at *
  have hN3 := HN2.out.keep hS3 (by rintro ⟨q, hq⟩; cases hq)
  have hPb3 := HPb2.out.keep hS3 (not_ofP (by omega) _)
  have k6 : W3.cell? ⟨w.heap.size, 6, none⟩ = some (.int .i64 o.d) := hN3.1.cell 6
  have k8 : W3.cell? ⟨w.heap.size, 8, none⟩ = some (.int .i64 o.dr) := hN3.1.cell 8
  have k9 : W3.cell? ⟨w.heap.size, 9, none⟩ = some (.bool o.gd) := hN3.1.cell 9
  have k1 : W3.cell? ⟨gp, 1, none⟩ = some (.pointer (some ⟨gy, 0, none⟩)) := hPb3.1.cell 1
  have hR3 := (HR.out.keep HS2.out (fun _ h => h)).keep hS3 (fun q => not_ofP (by omega) q)
  have hnl3 := hN3.1.lt
  have hgp3 := hPb3.1.lt
  have HRT : Hid (∀ w4, Below W3.heap.size W3 w4 → Calls Tryz.prog 90 #[.pointer (some ⟨gy, 0, none⟩), .int .i64 o.d, .int .i64 tr, .bool o.gd, .int .i64 o.dr] w4 fun e w' => e = .returned (.int .i64 (R.stale o.d tr o.dr)) ∧ TurnedR W3 L3 (2 * i + 2) gy (R.answered o.d tr o.gd o.dr) w') := fun w4 hb => by
    refine (refReply_any L3 (2 * i + 2) gy M R X.t o.d tr o.gd o.dr w4 (hR3.keep (Step.of_below (p := fun _ => False) hb) (fun _ h => h)) HSim.out HInv.out (by omega)).mono ?_
    rintro e w' ⟨rfl, L', r1, r2⟩
    exact ⟨rfl, L', r1, (Step.of_below hb).trans r2⟩
  have HN3 := hide hN3
  have HPb3 := hide hPb3
  have HA3 := hide hA3
  have HS3 := hide hS3
  generalize htn : R.stale o.d tr o.dr = tn at *
  clear hwc hN3 hPb3 hR3 hA3 hS3 q0 g6 g8 g9 HTk htn
  go_upto_region 5 with fail
  go_cut [7] (fun s7 wx => s7 = .int .i64 tn ∧ TurnedR W3 L3 (2 * i + 2) gy (R.answered o.d tr o.gd o.dr) wx)
  case first =>
    go_region_held3 (fun w' => w'.cell? ⟨gp, 1, none⟩ = some (.pointer (some ⟨gy, 0, none⟩)) ∧ w'.cell? ⟨w.heap.size, 6, none⟩ = some (.int .i64 o.d) ∧ w'.cell? ⟨w.heap.size, 8, none⟩ = some (.int .i64 o.dr) ∧ w'.cell? ⟨w.heap.size, 9, none⟩ = some (.bool o.gd)) (go_keep)
      (first | (go_at_call 90; refine (HRT.out _ (by first | exact Below.refl _ _ | exact (Below.refl _ _).drew)).mono ?_; rintro e w4 ⟨rfl, L4, r4, r5⟩; have hn2 := HN3.out.keep r5 (by rintro ⟨q, hq⟩; cases hq); have hp2 := HPb3.out.keep r5 (not_ofP (by omega) _); have z6 : w4.cell? ⟨w.heap.size, 6, none⟩ = some (.int .i64 o.d) := hn2.1.cell 6; have z8 : w4.cell? ⟨w.heap.size, 8, none⟩ = some (.int .i64 o.dr) := hn2.1.cell 8; have z9 : w4.cell? ⟨w.heap.size, 9, none⟩ = some (.bool o.gd) := hn2.1.cell 9; have z1 : w4.cell? ⟨gp, 1, none⟩ = some (.pointer (some ⟨gy, 0, none⟩)) := hp2.1.cell 1; have Hr4 := hide r4; have Hr5 := hide r5; clear r4 r5 hn2 hp2))
    all_goals (go_wp2_with fail; go_meet; exact ⟨rfl, L4, Hr4.out, Hr5.out⟩)
  case rest =>
  obtain ⟨rfl, L4, hR4, hS4⟩ := hcut
  generalize hwc : wc = W4 at *
  have hst : Step (fun l => ofP (2 * i + 1) l ∨ ofP (2 * i + 2) l) L W2 L4 W4 := (HS3.out.mono (fun l h => Or.inl h)).trans (hS4.mono (fun l h => Or.inr h))
  have HW4 := hide ((H.out.step HS2.out).agents Hv.out HPb2.out (HA3.out.keep hS4 (fun q => not_ofP (by omega) q)) hR4 HSo.out.1 HSo.out.2 (Nat.le_succ _) hst)
  have HSt4 : Hid (Step someP L w L4 W4) := (HS2.out.mono (fun _ h => h.elim)).trans (hst.mono (fun l h => by rcases h with ⟨q, rfl⟩ | ⟨q, rfl⟩ <;> simp [someP]))
  have HIs := hide (is_any A tn W4 HW4.out.err.hs h11)
  rw [Hev.out] at HIs
  clear hwc hR4 hS4 hst k1 k6 k8 k9 HRT HA3
  go_wp2_with fail
  refine HIs.out.mono ?_
  rintro e w6 ⟨rfl, hb6⟩
  have HW6 := hide (HW4.out.below hb6)
  have HS6 : Hid (Step someP L w L4 w6) := HSt4.out.trans (Step.of_below hb6)
  clear hb6
  go_wp2_with fail
  go_ret
  rw [Htr.out]
  exact ⟨rfl, L4, HW6.out, HS6.out⟩
end Go.Proofs.YtojpjaifhjigfaaGreatDoor

/- (*pair).stood. -/
namespace Go.Proofs.YtojpjaifhjigfaaGreatDoor
open Go.RowKit Go.Maps

/-- What stood leaves of a pair. -/
def PD.stood (P : PD) (M : Ag) (R : Rf) (ch : Bool) (sv : Value) : PD := { P with lg := encStr M.log, sv := sv, sts := if ch = true then P.sts ++ [⟨M.log.length, R.rs, R.dead⟩] else P.sts }
/-- What of a pair's own may turn. -/
def prP (i : Nat) : Lab → Prop := fun l => l = bl 8 i ∨ l = bl 9 i

theorem infoStand3 : (Tryz.prog.info? 105).map (fun i => (i.zero, i.size, i.bytes)) = some (some (.agg #[.int .i64 0, .slice none 0 0, .slice none 0 0]), 3, 56) := by kernel_rfl

theorem StandsAt.keepI {w w' : World} {L L' : Labs} {i : Nat} {sv : Value} {sts : List StD} (h : StandsAt w L i sv sts) {p : Lab → Prop} (s : Step p L w L' w') (h9 : ¬ p (bl 9 i)) (h10 : ¬ p (bl 10 i)) (h11 : ¬ p (bl 11 i)) : StandsAt w' L' i sv sts := by
  obtain ⟨fs, q1, q2, q3⟩ := h
  refine ⟨fs, q1, q2.keep s h9, fun j x f hx hf => ?_⟩
  obtain ⟨⟨ba, bk, r1, r2⟩, da, dk, r3, r4, r5⟩ := q3 j x f hx hf
  exact ⟨⟨ba, bk, r1, r2.keep s h10⟩, da, dk, r3, r4.keep s h11, r5⟩
/-- A block, if there is one, has a label. -/
def layO (L : Labs) (b : Option Nat) (l : Lab) : Labs := fun k => if b = some k then l else L k
theorem layO_same {L : Labs} {b : Option Nat} {l : Lab} {k : Nat} (h : b = some k) : layO L b l k = l := by simp [layO, h]
theorem layO_other {L : Labs} {b : Option Nat} {l : Lab} {k : Nat} (h : b ≠ some k) : layO L b l k = L k := by simp [layO, h]
theorem row_types {w : World} {B : Nat} {e e' : TypeId} {size size' : Nat} {v v' : Value} {n n' : Nat} {xs xs' : List Value} (h : w.ownsRow B e size v n xs) (h' : w.ownsRow B e' size' v' n' xs') (hne : e ≠ e') {k : Nat} (hk : v.ownBlock = some k) : v'.ownBlock ≠ some k := fun hk' => by
  rcases h.2 with ⟨q, _⟩ | ⟨g, cap, cur, q, _, q2, _⟩
  · rw [q] at hk; cases hk
  · rcases h'.2 with ⟨q', _⟩ | ⟨g', cap', cur', q', _, q2', _⟩
    · rw [q'] at hk'; cases hk'
    · rw [q] at hk
      rw [q'] at hk'
      obtain rfl : g = k := by simpa [Value.ownBlock] using hk
      obtain rfl : g' = g := by simpa [Value.ownBlock] using hk'
      rw [q2] at q2'
      simp at q2'
      exact hne q2'.2
theorem prCells_set14 (gx gy : Nat) (c : Cfg) (m : Option Nat) (sv lg lg' : Value) : (prCells gx gy c m sv lg).setIfInBounds 14 lg' = prCells gx gy c m sv lg' := by
  apply Array.ext'
  rw [Array.toList_setIfInBounds]
  rfl
theorem prCells_set13 (gx gy : Nat) (c : Cfg) (m : Option Nat) (sv sv' lg : Value) : (prCells gx gy c m sv lg).setIfInBounds 13 sv' = prCells gx gy c m sv' lg := by
  apply Array.ext'
  rw [Array.toList_setIfInBounds]
  rfl

set_option maxRecDepth 100000 in
set_option maxHeartbeats 4000000 in
theorem stood_core (L : Labs) (i gp t : Nat) (M : Ag) (R : Rf) (P : PD) (l0 ext : List UInt8) (ch : Bool) (w : World) (hP : PairAt w L i gp t M R P) (hlg : P.lg = encStr l0) (hex : M.log = l0 ++ ext) (hch : ch = true ↔ ext ≠ []) (hll : M.log.length ≤ 140737488355328) (hn : P.sts.length ≤ 8000000000) :
    Calls Tryz.prog 54 #[.pointer (some ⟨gp, 0, none⟩), .bool ch] w fun e w' => e = .returned (.bool true) ∧ ∃ L' sv', PairAt w' L' i gp t M R (P.stood M R ch sv') ∧ Step (prP i) L w L' w' := by
  obtain ⟨gx, gy, hpb, hA, hR, hSim, hInv, hSt, hMp⟩ := hP
  have p0 : w.cell? ⟨gp, 0, none⟩ = some (.pointer (some ⟨gx, 0, none⟩)) := hpb.1.cell 0
  have p1 : w.cell? ⟨gp, 1, none⟩ = some (.pointer (some ⟨gy, 0, none⟩)) := hpb.1.cell 1
  have p13 : w.cell? ⟨gp, 13, none⟩ = some P.sv := hpb.1.cell 13
  have p14 : w.cell? ⟨gp, 14, none⟩ = some (encStr l0) := by rw [← hlg]; exact hpb.1.cell 14
  have f13 : w.frozen? ⟨gp, 13, none⟩ = false := hpb.1.frozen 13
  have f14 : w.frozen? ⟨gp, 14, none⟩ = false := hpb.1.frozen 14
  have hgpl := hpb.1.lt
  have HLog := hide (log_any L (2 * i + 1) gx M w hA)
  have HPb := hide hpb
  have HA := hide hA
  have HR := hide hR
  have HSim := hide hSim
  have HInv := hide hInv
  have HSt := hide hSt
  have HMp := hide hMp
  have hlen : M.log.length = l0.length + ext.length := by rw [hex, List.length_append]
  have hexd : (ByteArray.mk M.log.toArray).extract 0 l0.length = ByteArray.mk l0.toArray := by
    have := enc_take M.log l0.length
    rw [hex, List.take_append_of_le_length (Nat.le_refl _), List.take_of_length_le (Nat.le_refl _)] at this
    rw [hex]
    simpa [encStr] using this
  have hl0 : (l0.length : Int) ≤ (M.log.length : Int) := by omega
  have hltd : decide ((M.log.length : Int) < (l0.length : Int)) = false := by simp; omega
  have hgt : decide ((l0.length : Int) < (M.log.length : Int)) = ch := by
    cases ch
    · have : ext = [] := Classical.byContradiction fun e => by have := hch.2 e; cases this
      rw [this] at hlen
      simp; simp at hlen; omega
    · have : ext ≠ [] := hch.1 rfl
      have : 0 < ext.length := List.length_pos_iff.2 this
      simp; omega
  have hgt' : decide (l0.length < M.log.length) = ch := by rw [← hgt]; simp
  have hltd' : decide (M.log.length < l0.length) = false := by simp; omega
  have hnlt : ¬ M.log.length < l0.length := by omega
  have hMl : M.log.length ≤ maxLen := by unfold maxLen; omega
  have Hlen := hide hlen
  have Hch := hide hch
  clear hpb hA hR hSim hInv hSt hMp hex hlen hch
  go_enter Tryz.func54, Tryz.ntmps54
  go_wp2_with fail
  refine HLog.out.mono ?_
  rintro e w1 ⟨rfl, hw1⟩
  have hw1' := hw1.symm
  subst hw1'
  clear hw1
  go_wp2_with fail
  go_quiet (fail)
  have HB14 : Hid (∀ q, BlkAt ((w.drewN q).setCell ⟨gp, 14, none⟩ (encStr M.log)) L (bl 8 i) gp (prCells gx gy P.c P.m P.sv (encStr M.log)) 102 ∧ Step (fun l => l = bl 8 i) L w L ((w.drewN q).setCell ⟨gp, 14, none⟩ (encStr M.log))) := fun q => by
    have s : Step (fun l => l = bl 8 i) L w L ((w.drewN q).setCell ⟨gp, 14, none⟩ (encStr M.log)) := (Step.drewN L w q).trans (Step.setCell L _ ⟨gp, 14, none⟩ _ HPb.out.2)
    have := Blk.set (w := w.drewN q) HPb.out.1 14 (encStr M.log)
    rw [prCells_set14] at this
    exact ⟨⟨this, HPb.out.2⟩, s⟩
  clear hgt hgt' hltd hltd' hexd
  cases ch
  · go_wp2_with fail
    go_ret
    obtain ⟨q1, s⟩ := HB14.out nq
    exact ⟨rfl, L, P.sv, ⟨gx, gy, q1, HA.out.keep s (fun q => by simp [bl]), HR.out.keep s (fun q => by simp [bl]), HSim.out, HInv.out, HSt.out.keepI s (by simp [bl]) (by simp [bl]) (by simp [bl]), HMp.out.keep s (by simp [bl])⟩, s.mono (fun l h => Or.inl h)⟩
  · go_upto_region 6 with fail
    generalize hV : World.setCell (World.drewN w _) _ _ = V
    obtain ⟨hpbV, hSV⟩ := HB14.out nq
    have hV' : (w.drewN nq).setCell ⟨gp, 14, none⟩ (encStr M.log) = V := hV
    rw [hV'] at hpbV hSV
    have hAV := HA.out.keep hSV (fun q => by simp [bl])
    have hRV := HR.out.keep hSV (fun q => by simp [bl])
    have hStV := HSt.out.keepI hSV (by simp [bl]) (by simp [bl]) (by simp [bl])
    have hMpV := HMp.out.keep hSV (by simp [bl])
    have v1 : V.cell? ⟨gp, 1, none⟩ = some (.pointer (some ⟨gy, 0, none⟩)) := hpbV.1.cell 1
    have hgV := hpbV.1.lt
    have HK := hide (refKept_any L (2 * i + 2) gy R V hRV (HSim.out.r120 HInv.out) (by rw [HSim.out.dead]; exact HInv.out.dead_le))
    obtain ⟨fs, hfl, hrow, hall⟩ := hStV
    obtain ⟨sa, sk, esv, _⟩ := hrow.shape
    have v13 : V.cell? ⟨gp, 13, none⟩ = some (.slice sa P.sts.length sk) := by rw [← esv]; exact hpbV.1.cell 13
    have HPbV := hide hpbV
    have HAV := hide hAV
    have HRV := hide hRV
    have Hrow := hide (esv ▸ hrow)
    have Hall := hide hall
    have Hfl := hide hfl
    have HMpV := hide hMpV
    have HSV := hide hSV
    have Hesv := hide esv
    clear hV hV' hpbV hAV hRV hrow hall hfl hMpV hSV esv p0 p1 p13 p14 f13 f14 hgpl HLog
    go_wp2_with fail
    refine HK.out.mono ?_
    rintro e w2 ⟨ba, bk, da, dk, rfl, hkb, hkd, hkn, hb2⟩
    have hz2 := hb2.size
    have x13 : w2.cell? ⟨gp, 13, none⟩ = some (.slice sa P.sts.length sk) := (hb2.cell (p := ⟨gp, 13, none⟩) hgV).trans v13
    have hgp2 : gp < w2.heap.size := by omega
    have Hkb := hide hkb
    have Hkd := hide hkd
    have Hkn := hide hkn
    have HB2 := hide hb2
    have Hr2 : Hid (RowAt w2 L (bl 9 i) 105 3 (.slice sa P.sts.length sk) P.sts.length ((P.sts.zip fs).flatMap fun p => [.int .i64 (p.1.n : Int), p.2.1, p.2.2])) := Hrow.out.keep (Step.of_below (p := fun _ => False) hb2) (fun h => h)
    have HBk2 : Hid (Blk w2 gp (prCells gx gy P.c P.m P.sv (encStr M.log)) 102) := HPbV.out.1.below hb2 hgV
    have HLgp : Hid (L gp = bl 8 i) := HPbV.out.2
    obtain ⟨i2, hi2, ho0, ho1, ho2⟩ := info_parts infoStand3
    generalize hnb : R.rs.length = nb at *
    generalize hnd : R.dead.length = nd at *
    have Hnb := hide hnb
    have Hnd := hide hnd
    clear hkb hkd hkn hb2 v1 v13 hnb hnd
    go_wp2_with (first
      | (at_builtin; refine wpList_append_lies _ rfl _ _ 100 rfl 0 105 i2 _ 3 56 Tryz.underlying100 hi2 ho0 ho1 ho2 rfl (by decide) (.slice sa P.sts.length sk) P.sts.length _ rfl (Hr2.out.1.alloc _) ⟨w2.heap.size, 0, none⟩ 1 1 [.int .i64 (M.log.length : Int), .slice ba nb bk, .slice da nd dk] rfl rfl (World.news_of_block (cs := #[.int .i64 (M.log.length : Int), .slice ba nb bk, .slice da nd dk]) (t := 105) (fr := (0, 0)) (heap_alloc_new w2 _)) (by simp [Value.oneCell']) (by decide) (by unfold maxLen; omega) (by omega) (Nat.zero_le _) (w2.heap.size + 1) (by simp) ?_; intro gg cap w9 hown9 hg9 hat9 hlt9; have hK9 := Blk.grown (HBk2.out.alloc _) hg9 (fun e => by have := Hr2.out.2 gp e.symm; rw [HLgp.out] at this; simp [bl] at this); have c13 := hK9.cell 13; have d13 := hK9.frozen 13; have HK9 := hide hK9; have HO9 := hide hown9; have HG9 := hide hg9; have HAt9 := hide hat9; clear hK9 hown9 hg9 hat9)
      | fail)
    go_ret
    have hbb : ∀ k, (Value.slice ba nb bk).ownBlock = some k → V.heap.size ≤ k ∧ k < w2.heap.size := fun k hk => Hkb.out.lt k hk
    have hbd : ∀ k, (Value.slice da nd dk).ownBlock = some k → V.heap.size ≤ k ∧ k < w2.heap.size := fun k hk => Hkd.out.lt k hk
    obtain ⟨L1, hL1⟩ : ∃ L1, L1 = layO (layO L (Value.slice ba nb bk).ownBlock (bl 10 i)) (Value.slice da nd dk).ownBlock (bl 11 i) := ⟨_, rfl⟩
    have hL1o : ∀ k, k < V.heap.size → L1 k = L k := fun k hk => by rw [hL1, layO_other (fun e => by have := hbd k e; omega), layO_other (fun e => by have := hbb k e; omega)]
    have s2 : ∀ p, Step p L V L1 w2 := fun p => Step.of_below' HB2.out hL1o
    have hRb : RowAt w2 L1 (bl 10 i) 112 8 (.slice ba nb bk) nb (R.rs.flatMap RBat.cells) := ⟨ownsRow_same Hkb.out (fun _ _ => rfl) (Nat.zero_le _), fun k hk => by rw [hL1, layO_other (row_types Hkb.out Hkd.out (by decide) hk), layO_same hk]⟩
    have hRd : RowAt w2 L1 (bl 11 i) 3 1 (.slice da nd dk) nd (ints R.dead) := ⟨ownsRow_same Hkd.out (fun _ _ => rfl) (Nat.zero_le _), fun k hk => by rw [hL1, layO_same hk]⟩
    have hRs := Hrow.out.keep (s2 (fun _ => False)) (fun h => h)
    have hat : (Value.slice sa P.sts.length sk).ownBlock = some gg ∨ (w2.alloc (.cells #[.int .i64 (M.log.length : Int), .slice ba nb bk, .slice da nd dk] 105)).heap.size ≤ gg := HAt9.out.imp id (fun e => by simp; omega)
    obtain ⟨hrow9, hlab⟩ := RowAt.appended (w0 := w2.alloc (.cells #[.int .i64 (M.log.length : Int), .slice ba nb bk, .slice da nd dk] 105)) (hRs.keep (Step.alloc (p := fun _ => False) L1 w2 _) (fun h => h)) HO9.out hat
    have hSa : Step (prP i) L1 w2 (lay L1 gg (bl 9 i)) w9 := (Step.alloc L1 w2 _).trans (Step.of_grown HG9.out (fun j hj => Or.inr (hRs.2 j hj)) hlab)
    have hgl9 : lay L1 gg (bl 9 i) gp = bl 8 i := by rw [hlab gp (by simp; omega), hL1o gp hgV]; exact HLgp.out
    have hSb : Step (fun l => l = bl 8 i) (lay L1 gg (bl 9 i)) w9 (lay L1 gg (bl 9 i)) (w9.setCell ⟨gp, 13, none⟩ (.slice (some ⟨gg, 0, none⟩) (P.sts.length + 1) cap)) := Step.setCell _ w9 ⟨gp, 13, none⟩ _ hgl9
    have hS2 : Step (prP i) L1 w2 (lay L1 gg (bl 9 i)) (w9.setCell ⟨gp, 13, none⟩ (.slice (some ⟨gg, 0, none⟩) (P.sts.length + 1) cap)) := hSa.trans (hSb.mono (fun l h => Or.inl h))
    have hSall : Step (prP i) L w (lay L1 gg (bl 9 i)) (w9.setCell ⟨gp, 13, none⟩ (.slice (some ⟨gg, 0, none⟩) (P.sts.length + 1) cap)) := ((HSV.out.mono (fun l h => Or.inl h)).trans (s2 _)).trans hS2
    have np : ∀ j, j ≠ 0 → ∀ q, ¬ prP i (some (j, q)) := fun j hj q h => by rcases h with h | h <;> (simp [bl] at h; omega)
    have n10 : ¬ prP i (bl 10 i) := by simp [prP, bl]
    have n11 : ¬ prP i (bl 11 i) := by simp [prP, bl]
    refine ⟨rfl, lay L1 gg (bl 9 i), .slice (some ⟨gg, 0, none⟩) (P.sts.length + 1) cap, ⟨gx, gy, ⟨?_, hgl9⟩, (HAV.out.keep (s2 (fun _ => False)) (fun _ h => h)).keep hS2 (np _ (by omega)), (HRV.out.keep (s2 (fun _ => False)) (fun _ h => h)).keep hS2 (np _ (by omega)), HSim.out, HInv.out, ?_, (HMpV.out.keep (s2 (fun _ => False)) (fun h => h)).keep hS2 (by simp [prP, bl])⟩, hSall⟩
    · have := HK9.out.set 13 (.slice (some ⟨gg, 0, none⟩) (P.sts.length + 1) cap)
      rw [prCells_set13] at this
      exact this
    · show StandsAt _ _ i (.slice (some ⟨gg, 0, none⟩) (P.sts.length + 1) cap) (P.sts ++ [⟨M.log.length, R.rs, R.dead⟩])
      refine ⟨fs ++ [(.slice ba nb bk, .slice da nd dk)], by simp [Hfl.out], ?_, fun j s f hs hf => ?_⟩
      · have e : ((P.sts ++ [(⟨M.log.length, R.rs, R.dead⟩ : StD)]).zip (fs ++ [(Value.slice ba nb bk, Value.slice da nd dk)])).flatMap (fun p => [Value.int .i64 (p.1.n : Int), p.2.1, p.2.2]) = ((P.sts.zip fs).flatMap fun p => [.int .i64 (p.1.n : Int), p.2.1, p.2.2]) ++ [.int .i64 (M.log.length : Int), .slice ba nb bk, .slice da nd dk] := by
          rw [List.zip_append Hfl.out.symm]
          simp
        rw [e, List.length_append, List.length_singleton]
        exact hrow9.keep hSb (by simp [bl])
      · by_cases hj : j < P.sts.length
        · rw [List.getElem?_append_left hj] at hs
          rw [List.getElem?_append_left (by rw [Hfl.out]; exact hj)] at hf
          obtain ⟨⟨b1, b2, r1, r2⟩, d1, d2, r3, r4, r5⟩ := Hall.out j s f hs hf
          exact ⟨⟨b1, b2, r1, (r2.keep (s2 (fun _ => False)) (fun h => h)).keep hS2 n10⟩, d1, d2, r3, (r4.keep (s2 (fun _ => False)) (fun h => h)).keep hS2 n11, r5⟩
        · rw [List.getElem?_append_right (by omega)] at hs
          rw [List.getElem?_append_right (by rw [Hfl.out]; omega), Hfl.out] at hf
          have e0 : j - P.sts.length = 0 := by have := (List.getElem?_eq_some_iff.1 hs).1; simp at this; omega
          rw [e0] at hs hf
          simp at hs hf
          subst hs
          subst hf
          have k1 := Hnb.out
          have k2 := Hnd.out
          refine ⟨⟨ba, bk, by rw [k1], ?_⟩, da, dk, by rw [k2], ?_, fun h => Hkn.out (by rw [← k2]; exact h)⟩
          · rw [k1]; exact hRb.keep hS2 n10
          · rw [k2]; exact hRd.keep hS2 n11
end Go.Proofs.YtojpjaifhjigfaaGreatDoor
