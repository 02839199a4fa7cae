/- Steps of the proof (several texts in one): Heard, Settle, Settle2, GiveUp, GiveUp2. -/
import Derived.Test.YtojpjaifhjigfaaGreatDoorMTried02
import Derived.Deep.RegionWith
import Derived.Deep.DeepCutAuto
import Derived.Test.YtojpjaifhjigfaaGreatDoorMTried05
import Derived.BigRegion
import Derived.Deep.QuietTactic

/- A destination: is it busy, is it open; what a result makes of its breaker. -/
namespace Go.Proofs.YtojpjaifhjigfaaGreatDoor
open Go.RowKit Go.Maps

set_option maxHeartbeats 400000 in
theorem isBusy_any (go b : Nat) (way : Int) (w : World) (h : w.cell? ⟨go, b + 8, none⟩ = some (.int .i64 way)) : Calls Tryz.prog 111 #[.pointer (some ⟨go, b, none⟩)] w fun e w' => e = .returned (.bool (way != -1)) ∧ w' = w := by
  go_enter Tryz.func111, Tryz.ntmps111
  go_wp2_with fail
  go_ret
  exact ⟨rfl, rfl⟩
set_option maxHeartbeats 400000 in
theorem isOpen_any (go b : Nat) (tr : Bool) (unt now : Int) (w : World) (h3 : w.cell? ⟨go, b + 3, none⟩ = some (.bool tr)) (h4 : w.cell? ⟨go, b + 4, none⟩ = some (.int .i64 unt)) : Calls Tryz.prog 112 #[.pointer (some ⟨go, b, none⟩), .int .i64 now] w fun e w' => e = .returned (.bool (tr && decide (now < unt))) ∧ ∃ n, w' = w.drewN n := by
  cases tr
  all_goals
    go_enter Tryz.func112, Tryz.ntmps112
    go_wp2_with fail
    try go_region
    all_goals
      go_wp2_with fail
      go_ret
      exact ⟨by simp, by first | exact ⟨0, rfl⟩ | exact ⟨1, rfl⟩⟩
set_option maxHeartbeats 400000 in
theorem isUnderWay_any (go b : Nat) (way sends try' : Int) (w : World) (h : w.cell? ⟨go, b + 8, none⟩ = some (.int .i64 way)) (h7 : w.cell? ⟨go, b + 7, none⟩ = some (.int .i64 sends)) : Calls Tryz.prog 72 #[.pointer (some ⟨go, b, none⟩), .int .i64 try'] w fun e w' => e = .returned (.bool ((way != -1) && (sends == try'))) ∧ Below w.heap.size w w' := by
  have H := fun (w1 : World) h1 => hide (isBusy_any go b way w1 h1)
  have HH := hide h
  clear h
  cases hw : (way != -1)
  all_goals
    rw [hw] at H
    go_enter Tryz.func72, Tryz.ntmps72
    go_wp2_with fail
    refine (H _ (by exact HH.out)).out.mono ?_
    rintro e w2 ⟨rfl, rfl⟩
    go_wp2_with fail
    go_ret
    exact ⟨by simp, by first | exact Below.refl _ _ | exact (Below.refl _ _).drew⟩

set_option maxHeartbeats 400000 in
theorem finish_any (L : Labs) (who th go k d : Nat) (os : List Out) (o : Out) (w : World) (h : OutF w L who th go k os d o) : Calls Tryz.prog 115 #[.pointer (some ⟨go, d * 10, none⟩)] w fun e w' => e = .returned (.int .i64 o.way) ∧ OutF w' L who th go k os d { o with way := -1 } ∧ Step (olP who) L w L w' := by
  have HU := hide (h.put 8 (.int .i64 (-1)) { o with way := -1 } (by omega) rfl (fun _ _ => rfl))
  obtain ⟨g, ca, ck, hC⟩ := h.cells
  have c8 := hC.c8
  have f8 := hC.fz (d * 10 + 8)
  clear hC h
  go_enter Tryz.func115, Tryz.ntmps115
  go_wp2_with fail
  go_ret
  exact ⟨rfl, HU.out⟩
set_option maxHeartbeats 400000 in
theorem begin_any (L : Labs) (who th go k d : Nat) (os : List Out) (o : Out) (p : Nat) (now : Int) (w : World) (h : OutF w L who th go k os d o) (h0 : 0 ≤ o.sends) (h1 : o.sends ≤ 1000000000000000000) : Calls Tryz.prog 114 #[.pointer (some ⟨go, d * 10, none⟩), .int .i64 p, .int .i64 now] w fun e w' => e = .returned (.tuple #[]) ∧ OutF w' L who th go k os d { o with sends := o.sends + 1, way := p, began := now } ∧ Step (olP who) L w L w' := by
  have HU : Hid (OutF (((w.setCell ⟨go, d * 10 + 7, none⟩ (.int .i64 (o.sends + 1))).setCell ⟨go, d * 10 + 8, none⟩ (.int .i64 p)).setCell ⟨go, d * 10 + 9, none⟩ (.int .i64 now)) L who th go k os d { o with sends := o.sends + 1, way := p, began := now } ∧ Step (olP who) L w L (((w.setCell ⟨go, d * 10 + 7, none⟩ (.int .i64 (o.sends + 1))).setCell ⟨go, d * 10 + 8, none⟩ (.int .i64 p)).setCell ⟨go, d * 10 + 9, none⟩ (.int .i64 now))) := by
    obtain ⟨a1, s1⟩ := h.put 7 (.int .i64 (o.sends + 1)) { o with sends := o.sends + 1 } (by omega) rfl (fun _ _ => rfl)
    obtain ⟨a2, s2⟩ := a1.put 8 (.int .i64 p) { o with sends := o.sends + 1, way := p } (by omega) rfl (fun _ _ => rfl)
    obtain ⟨a3, s3⟩ := a2.put 9 (.int .i64 now) { o with sends := o.sends + 1, way := p, began := now } (by omega) rfl (fun _ _ => rfl)
    exact ⟨a3, (s1.trans s2).trans s3⟩
  obtain ⟨g, ca, ck, hC⟩ := h.cells
  have c7 := hC.c7
  have c8 := hC.c8
  have c9 := hC.c9
  have fz := hC.fz
  clear hC h
  go_enter Tryz.func114, Tryz.ntmps114
  go_wp2_with fail
  try go_region
  all_goals
    go_wp2_with fail
    first | go_end0 | refine bodyPost_ret (results_none rfl _ _ _) rfl ?_
    exact ⟨rfl, HU.out⟩
set_option maxHeartbeats 400000 in
theorem forget_any (L : Labs) (who th go k d : Nat) (os : List Out) (o : Out) (w : World) (h : OutF w L who th go k os d o) : Calls Tryz.prog 161 #[.pointer (some ⟨go, d * 10, none⟩)] w fun e w' => e = .returned (.tuple #[]) ∧ OutF w' L who th go k os d { o with res := 0, fl := 0 } ∧ Step (olP who) L w L w' := by
  have HU : Hid (OutF ((w.setCell ⟨go, d * 10 + 1, none⟩ (.int .i64 0)).setCell ⟨go, d * 10 + 2, none⟩ (.int .i64 0)) L who th go k os d { o with res := 0, fl := 0 } ∧ Step (olP who) L w L ((w.setCell ⟨go, d * 10 + 1, none⟩ (.int .i64 0)).setCell ⟨go, d * 10 + 2, none⟩ (.int .i64 0))) := by
    obtain ⟨a1, s1⟩ := h.put 1 (.int .i64 0) { o with res := 0 } (by omega) rfl (fun _ _ => rfl)
    obtain ⟨a2, s2⟩ := a1.put 2 (.int .i64 0) { o with res := 0, fl := 0 } (by omega) rfl (fun _ _ => rfl)
    exact ⟨a2, s1.trans s2⟩
  obtain ⟨g, ca, ck, hC⟩ := h.cells
  have c1 := hC.c1
  have c2 := hC.c2
  have fz := hC.fz
  clear hC h
  go_enter Tryz.func161, Tryz.ntmps161
  go_wp2_with fail
  try go_region
  all_goals
    go_wp2_with fail
    first | go_end0 | refine bodyPost_ret (results_none rfl _ _ _) rfl ?_
    exact ⟨rfl, HU.out⟩
set_option maxHeartbeats 400000 in
theorem trip_any (L : Labs) (who th go k d : Nat) (os : List Out) (o : Out) (u : Int) (w : World) (h : OutF w L who th go k os d o) : Calls Tryz.prog 145 #[.pointer (some ⟨go, d * 10, none⟩), .int .i64 u] w fun e w' => e = .returned (.tuple #[]) ∧ OutF w' L who th go k os d { o with trip := true, unt := u, res := 0, fl := 0 } ∧ Step (olP who) L w L w' := by
  have HU : Hid (Calls Tryz.prog 161 #[.pointer (some ⟨go, d * 10, none⟩)] ((w.setCell ⟨go, d * 10 + 3, none⟩ (.bool true)).setCell ⟨go, d * 10 + 4, none⟩ (.int .i64 u)) fun e w' => e = .returned (.tuple #[]) ∧ OutF w' L who th go k os d { o with trip := true, unt := u, res := 0, fl := 0 } ∧ Step (olP who) L w L w') := by
    obtain ⟨a1, s1⟩ := h.put 3 (.bool true) { o with trip := true } (by omega) rfl (fun _ _ => rfl)
    obtain ⟨a2, s2⟩ := a1.put 4 (.int .i64 u) { o with trip := true, unt := u } (by omega) rfl (fun _ _ => rfl)
    refine (forget_any L who th go k d os _ _ a2).mono ?_
    rintro e w' ⟨rfl, a3, s3⟩
    exact ⟨rfl, a3, (s1.trans s2).trans s3⟩
  obtain ⟨g, ca, ck, hC⟩ := h.cells
  have c3 := hC.c3
  have c4 := hC.c4
  have fz := hC.fz
  clear hC h
  go_enter Tryz.func145, Tryz.ntmps145
  go_wp2_with fail
  refine HU.out.mono ?_
  rintro e w' ⟨rfl, h1⟩
  have H1 := hide h1
  clear h1
  go_wp2_with fail
  first | go_end0 | refine bodyPost_ret (results_none rfl _ _ _) rfl ?_
  exact ⟨rfl, H1.out⟩
set_option maxHeartbeats 400000 in
theorem tooMany_any (g th q : Nat) (w : World) (h : w.cell? ⟨g, 0, none⟩ = some (.float .f64 th)) : Calls Tryz.prog 152 #[.float .f64 q, .pointer (some ⟨g, 0, none⟩)] w fun e w' => e = .returned (.bool ((FloatKind.f64.format.order q th == some .gt) || (FloatKind.f64.format.order q th == some .eq))) ∧ w' = w := by
  go_enter Tryz.func152, Tryz.ntmps152
  go_wp2_with fail
  go_ret
  exact ⟨rfl, rfl⟩

theorem OutF.drew {w : World} {L : Labs} {who th go k d : Nat} {os : List Out} {o : Out} (h : OutF w L who th go k os d o) : OutF w.drew L who th go k os d o := h.keep (Step.drew (p := fun _ => False) L w) (fun h => h) (fun _ h => h) (fun _ h => h)
theorem OutF.drewN {w : World} {L : Labs} {who th go k d : Nat} {os : List Out} {o : Out} (h : OutF w L who th go k os d o) (n : Nat) : OutF (w.drewN n) L who th go k os d o := h.keep (Step.drewN (p := fun _ => False) L w n) (fun h => h) (fun _ h => h) (fun _ h => h)
theorem OutF.alloc {w : World} {L : Labs} {who th go k d : Nat} {os : List Out} {o : Out} (h : OutF w L who th go k os d o) (x : Obj) : OutF (w.alloc x) L who th go k os d o := h.keep (Step.alloc (p := fun _ => False) L w x) (fun h => h) (fun _ h => h) (fun _ h => h)

theorem infoCfgSz : (Tryz.prog.info? 25).map (·.size) = some 11 := by kernel_rfl
/-- The rest of count: behind the counting. -/
def Counted (w : World) (L : Labs) (who th go k : Nat) (os : List Out) (d : Nat) (o : Out) (w' : World) : Prop := OutF w' L who th go k os d o ∧ Step (olP who) L w L w'

set_option maxRecDepth 100000 in
set_option maxHeartbeats 2000000 in
theorem count_any (L : Labs) (who go k d : Nat) (os : List Out) (o : Out) (good : Bool) (c : Cfg) (m : Option Nat) (now : Int) (w : World) (h : OutF w L who c.th go k os d o) (h0 : 0 ≤ o.res) (h1 : o.res ≤ 63) (h2 : 0 ≤ o.fl) (h3 : o.fl ≤ o.res) (hn0 : 0 ≤ now) (hn1 : now ≤ 1000000000000000000) (hp0 : 0 ≤ c.op) (hp1 : c.op ≤ 60000) :
    Calls Tryz.prog 144 #[.pointer (some ⟨go, d * 10, none⟩), .bool good, c.val m, .int .i64 now] w fun e w' => e = .returned (.tuple #[]) ∧ Counted w L who c.th go k os d (o.counted c now good) w' := by
  obtain ⟨r, f, hr, hf, hCo⟩ : ∃ r f : Int, r = o.res + 1 ∧ f = (if good then o.fl else o.fl + 1) ∧ o.counted c now good = (if decide (c.le ≤ r) && tooMany c.th f r then { o with trip := true, unt := now + c.op, res := 0, fl := 0 } else if r = c.wi then { o with res := 0, fl := 0 } else { o with res := r, fl := f }) := ⟨_, _, rfl, rfl, rfl⟩
  generalize o.counted c now good = oR at hCo ⊢
  have HOR := hide hCo
  clear hCo
  have hfb : 0 ≤ f ∧ f ≤ 64 := by cases good <;> simp at hf <;> omega
  have hquo : ∀ (w : World) (t : TypeId), (binOp .quo t (.float .f64 (floatOfInt .f64 f)) (.float .f64 (floatOfInt .f64 r))).run Tryz.prog w = .ok (.float .f64 (quot f r)) w := fun w t => run_float_arith w .quo t .f64 _ _ _ (quot_some hfb.1 hfb.2 (by omega) (by omega))
  have HT : ∀ (g : Nat) (w1 : World), w1.cell? ⟨g, 0, none⟩ = some (.float .f64 c.th) → Hid (Calls Tryz.prog 152 #[.float .f64 (quot f r), .pointer (some ⟨g, 0, none⟩)] w1 fun e w' => e = .returned (.bool (tooMany c.th f r)) ∧ w' = w1) := fun (g : Nat) (w1 : World) hc => by rw [tooMany]; exact hide (tooMany_any g c.th (quot f r) w1 hc)
  have HTrip := fun o' w1 h' => hide (trip_any L who c.th go k d os o' (now + c.op) w1 h')
  have HForg := fun o' w1 h' => hide (forget_any L who c.th go k d os o' w1 h')
  obtain ⟨g, ca, ck, hC⟩ := h.cells
  have c1 := hC.c1
  have c2 := hC.c2
  have fz := hC.fz
  have hlt := hC.lt
  have HO := hide h
  clear hC h hfb
  have HF : Hid (∀ W, W = (if good then (w.setCell ⟨go, d * 10 + 1, none⟩ (.int .i64 r)) else ((w.setCell ⟨go, d * 10 + 1, none⟩ (.int .i64 r)).setCell ⟨go, d * 10 + 2, none⟩ (.int .i64 f))).alloc (.cells (c.cells m) 25) → OutF W L who c.th go k os d { o with res := r, fl := f } ∧ Step (olP who) L w L W ∧ Blk W w.heap.size (c.cells m) 25) := by
    rintro W rfl
    obtain ⟨a1, s1⟩ := HO.out.put 1 (.int .i64 r) { o with res := r } (by omega) rfl (fun _ _ => rfl)
    cases good
    · obtain ⟨a2, s2⟩ := a1.put 2 (.int .i64 f) { o with res := r, fl := f } (by omega) rfl (fun _ _ => rfl)
      exact ⟨a2.alloc _, (s1.trans s2).trans (Step.alloc L _ _), Blk.made (by simp) _ _⟩
    · have e : f = o.fl := by simpa using hf
      subst e
      exact ⟨a1.alloc _, s1.trans (Step.alloc L _ _), Blk.made (by simp) _ _⟩
  subst hr
  have HLast := hide hf
  cases good
  all_goals
    simp only [Bool.false_eq_true, if_true, if_false] at hf
    subst hf
    clear HLast
    go_enter Tryz.func144, Tryz.ntmps144
    go_upto_region 4 with fail
    generalize hW : World.alloc _ _ = W
    obtain ⟨hF, hS, hB⟩ := HF.out W (by first | exact hW.symm | (rw [← hW]; rfl))
    clear hW
    obtain ⟨g', ca', ck', hC⟩ := hF.cells
    have c0 := hC.c0
    have cg := hC.cg
    have d1 : W.cell? ⟨go, d * 10 + 1, none⟩ = some (.int .i64 (o.res + 1)) := hC.c1
    have d2 := hC.c2
    have b7 : W.cell? ⟨w.heap.size, 7, none⟩ = some (.int .i64 c.wi) := hB.cell 7
    have b8 : W.cell? ⟨w.heap.size, 8, none⟩ = some (.int .i64 c.le) := hB.cell 8
    have b10 : W.cell? ⟨w.heap.size, 10, none⟩ = some (.int .i64 c.op) := hB.cell 10
    have HFW := hide hF
    have HSW := hide hS
    clear hF hS hB hC c1 c2 fz
    by_cases hle : c.le ≤ o.res + 1
    · have hld : decide (c.le ≤ o.res + 1) = true := by simpa using hle
      cases htm : tooMany c.th _ (o.res + 1)
      · rw [htm] at HT
        have Htm := hide htm
        clear htm
        go_wp2_with fail
        go_quiet ((go_at_call 152; exact Calls.quiet_of_same ((HT g' _ (by exact cg)).out)))
        go_wp2_with fail
        go_quiet (fail)
        by_cases hwi : o.res + 1 = c.wi
        · go_wp2_with fail
          refine (HForg _ _ (by exact HFW.out.drewN _)).out.mono ?_
          rintro e w' ⟨rfl, hx, hs⟩
          have Hx := hide hx
          have Hs := hide hs
          clear hx hs
          go_wp2_with fail
          first | go_end0 | refine bodyPost_ret (results_none rfl _ _ _) rfl ?_
          refine ⟨rfl, ?_, (HSW.out.trans (Step.drewN L W _)).trans Hs.out⟩
          rw [HOR.out, if_neg (by simp [Htm.out]), if_pos hwi]
          exact Hx.out
        · go_wp2_with fail
          first | go_end0 | refine bodyPost_ret (results_none rfl _ _ _) rfl ?_
          refine ⟨rfl, ?_, (HSW.out.trans (Step.drewN L W _)).trans (Step.drewN L _ _)⟩
          rw [HOR.out, if_neg (by simp [Htm.out]), if_neg hwi]
          exact (HFW.out.drewN _).drewN _
      · rw [htm] at HT
        have Htm := hide htm
        clear htm
        go_wp2_with fail
        go_quiet ((go_at_call 152; exact Calls.quiet_of_same ((HT g' _ (by exact cg)).out)))
        go_wp2_with fail
        refine (HTrip _ _ (by exact HFW.out.drewN _)).out.mono ?_
        rintro e w' ⟨rfl, hx, hs⟩
        have Hx := hide hx
        have Hs := hide hs
        clear hx hs
        go_wp2_with fail
        first | go_end0 | refine bodyPost_ret (results_none rfl _ _ _) rfl ?_
        refine ⟨rfl, ?_, (HSW.out.trans (Step.drewN L W _)).trans Hs.out⟩
        rw [HOR.out, if_pos (by simp [hle, Htm.out])]
        exact Hx.out
    · have hld : decide (c.le ≤ o.res + 1) = false := by simpa using hle
      have Hle := hide hle
      go_wp2_with fail
      go_quiet (fail)
      go_wp2_with fail
      go_quiet (fail)
      by_cases hwi : o.res + 1 = c.wi
      · go_wp2_with fail
        refine (HForg _ _ (by exact HFW.out.drewN _)).out.mono ?_
        rintro e w' ⟨rfl, hx, hs⟩
        have Hx := hide hx
        have Hs := hide hs
        clear hx hs
        go_wp2_with fail
        first | go_end0 | refine bodyPost_ret (results_none rfl _ _ _) rfl ?_
        refine ⟨rfl, ?_, (HSW.out.trans (Step.drewN L W _)).trans Hs.out⟩
        rw [HOR.out, if_neg (by rw [decide_eq_false (show ¬ c.le ≤ o.res + 1 by have := Hle.out; omega)]; simp), if_pos hwi]
        exact Hx.out
      · go_wp2_with fail
        first | go_end0 | refine bodyPost_ret (results_none rfl _ _ _) rfl ?_
        refine ⟨rfl, ?_, (HSW.out.trans (Step.drewN L W _)).trans (Step.drewN L _ _)⟩
        rw [HOR.out, if_neg (by rw [decide_eq_false (show ¬ c.le ≤ o.res + 1 by have := Hle.out; omega)]; simp), if_neg hwi]
        exact (HFW.out.drewN _).drewN _

set_option maxRecDepth 100000 in
set_option maxHeartbeats 2000000 in
theorem hear_any (L : Labs) (who go k d : Nat) (os : List Out) (o : Out) (good : Bool) (c : Cfg) (m : Option Nat) (now : Int) (w : World) (h : OutF w L who c.th go k os d o) (h0 : 0 ≤ o.res) (h1 : o.res ≤ 63) (h2 : 0 ≤ o.fl) (h3 : o.fl ≤ o.res) (hn0 : 0 ≤ now) (hn1 : now ≤ 1000000000000000000) (hp0 : 0 ≤ c.op) (hp1 : c.op ≤ 60000) :
    Calls Tryz.prog 116 #[.pointer (some ⟨go, d * 10, none⟩), .bool good, c.val m, .int .i64 now] w fun e w' => e = .returned (.tuple #[]) ∧ Counted w L who c.th go k os d (o.heard c now good) w' := by
  have HC := hide (fun x => count_any L who go k d os o good c m now (w.alloc x) (h.alloc x) h0 h1 h2 h3 hn0 hn1 hp0 hp1)
  have HTrip := hide (fun x => trip_any L who c.th go k d os o (now + c.op) (w.alloc x) (h.alloc x))
  have HPut : Hid (∀ x, Counted w L who c.th go k os d { o with trip := false } ((w.setCell ⟨go, d * 10 + 3, none⟩ (.bool false)).alloc x)) := fun x => by
    obtain ⟨a1, s1⟩ := h.put 3 (.bool false) { o with trip := false } (by omega) rfl (fun _ _ => rfl)
    exact ⟨a1.alloc x, s1.trans (Step.alloc L _ x)⟩
  obtain ⟨oR, hoR⟩ : ∃ oR, oR = o.heard c now good := ⟨_, rfl⟩
  rw [← hoR]
  have HoR := hide hoR
  obtain ⟨g, ca, ck, hC⟩ := h.cells
  have c3 := hC.c3
  have f3 := hC.fz (d * 10 + 3)
  have hlt := hC.lt
  clear hC h hoR
  cases ht : o.trip
  · rw [ht] at c3
    have Ht := hide ht
    clear ht
    go_enter Tryz.func116, Tryz.ntmps116
    go_wp2_with (first
      | (refine wpList_load_mid rfl 25 _ rfl w.heap.size 0 rfl (c.cells m).toList _ ((Blk.new w _ _).range 0 _ rfl) Tryz.underlying25 rfl infoCfgSz ?_)
      | fail)
    refine (HC.out _).mono ?_
    rintro e w' ⟨rfl, hx⟩
    have Hx := hide hx
    clear hx
    go_wp2_with fail
    first | go_end0 | refine bodyPost_ret (results_none rfl _ _ _) rfl ?_
    refine ⟨rfl, ?_, (Step.alloc L w _).trans Hx.out.2⟩
    rw [HoR.out, Out.heard, Ht.out]
    exact Hx.out.1
  · rw [ht] at c3
    have Ht := hide ht
    clear ht
    cases good
    · go_enter Tryz.func116, Tryz.ntmps116
      go_wp2_with fail
      refine (HTrip.out _).mono ?_
      rintro e w' ⟨rfl, hx, hs⟩
      have Hx := hide hx
      have Hs := hide hs
      clear hx hs
      go_wp2_with fail
      first | go_end0 | refine bodyPost_ret (results_none rfl _ _ _) rfl ?_
      refine ⟨rfl, ?_, (Step.alloc L w _).trans Hs.out⟩
      rw [HoR.out, Out.heard, Ht.out]
      exact Hx.out
    · go_enter Tryz.func116, Tryz.ntmps116
      go_wp2_with fail
      first | go_end0 | refine bodyPost_ret (results_none rfl _ _ _) rfl ?_
      refine ⟨rfl, ?_⟩
      rw [HoR.out, Out.heard, Ht.out]
      exact HPut.out _
end Go.Proofs.YtojpjaifhjigfaaGreatDoor

/- nextPause, lose: one failure more. -/
namespace Go.Proofs.YtojpjaifhjigfaaGreatDoor
open Go.RowKit Go.Maps

/-- The numbers of a configuration. -/
structure Cfg.Ok (c : Cfg) : Prop where
  d : 1 ≤ c.d ∧ c.d ≤ 4
  q : 1 ≤ c.q ∧ c.q ≤ 120
  at' : 1 ≤ c.at' ∧ c.at' ≤ 10
  ca : 1 ≤ c.ca ∧ c.ca ≤ 60000
  ba : 1 ≤ c.ba ∧ c.ba ≤ c.ca
  ti : 1 ≤ c.ti ∧ c.ti ≤ 60000
  op : 1 ≤ c.op ∧ c.op ≤ 60000
  wi : 1 ≤ c.wi ∧ c.wi ≤ 64
  le : 1 ≤ c.le ∧ c.le ≤ c.wi
theorem Cfg.ok {c : Cfg} (h : c.numB = true) : c.Ok := by
  have H : ∀ v l m, (v, l, m) ∈ c.nums → l ≤ v ∧ v ≤ m := fun v l m hm => by
    have := List.all_eq_true.1 h (v, l, m) hm
    simpa [inB] using this
  exact ⟨H _ _ _ (by simp [Cfg.nums]), H _ _ _ (by simp [Cfg.nums]), H _ _ _ (by simp [Cfg.nums]), H _ _ _ (by simp [Cfg.nums]), H _ _ _ (by simp [Cfg.nums]), H _ _ _ (by simp [Cfg.nums]), H _ _ _ (by simp [Cfg.nums]), H _ _ _ (by simp [Cfg.nums]), H _ _ _ (by simp [Cfg.nums])⟩
theorem nextPause_bd {c : Cfg} (h : c.Ok) {pa draw : Int} (h1 : c.ba ≤ pa) : c.ba ≤ nextPause c pa draw ∧ nextPause c pa draw ≤ c.ca := by
  have := h.ba
  have := h.ca
  have : 0 ≤ draw % (3 * pa - c.ba + 1) := Int.emod_nonneg _ (by omega)
  unfold nextPause
  omega

set_option maxRecDepth 100000 in
set_option maxHeartbeats 1000000 in
theorem nextPause_any (c : Cfg) (m : Option Nat) (pa draw : Int) (w : World) (h : c.Ok) (h1 : c.ba ≤ pa) (h2 : pa ≤ c.ca) (hd : 0 ≤ draw) :
    Calls Tryz.prog 146 #[.int .i64 pa, .int .i64 draw, c.val m] w fun e w' => e = .returned (.int .i64 (nextPause c pa draw)) ∧ Below w.heap.size w w' := by
  have hba := h.ba
  have hca := h.ca
  have hm0 : 0 ≤ draw % (3 * pa - c.ba + 1) := Int.emod_nonneg _ (by omega)
  have hm1 : draw % (3 * pa - c.ba + 1) < 3 * pa - c.ba + 1 := Int.emod_lt_of_pos _ (by omega)
  have hne : ¬ (3 * pa - c.ba + 1 = 0) := by omega
  unfold nextPause
  clear h
  go_enter Tryz.func146, Tryz.ntmps146
  go_wp2_with fail
  go_region
  all_goals
    go_wp2_with fail
    go_ret
    refine ⟨ret_int ?_, ((Below.refl _ _).alloc (Nat.le_refl _) _).drew⟩
    first | rfl | done

/-- Seven cells written into a new block. -/
theorem Blk.set7 {w : World} {g : Nat} {cur : Array Value} {e : TypeId} (h : Blk w g cur e) (hs : cur.size = 7) (v0 v1 v2 v3 v4 v5 v6 : Value) : Blk (((((((w.setCell ⟨g, 0, none⟩ v0).setCell ⟨g, 1, none⟩ v1).setCell ⟨g, 2, none⟩ v2).setCell ⟨g, 3, none⟩ v3).setCell ⟨g, 4, none⟩ v4).setCell ⟨g, 5, none⟩ v5).setCell ⟨g, 6, none⟩ v6) g #[v0, v1, v2, v3, v4, v5, v6] e := by
  have h7 := h.setCells [v0, v1, v2, v3, v4, v5, v6] 0
  have e7 : splice cur 0 [v0, v1, v2, v3, v4, v5, v6] = #[v0, v1, v2, v3, v4, v5, v6] := by
    apply Array.ext'
    rw [splice_toList _ _ _ (by simp [hs]), List.drop_of_length_le (by simp [hs])]
    rfl
  rw [e7] at h7
  exact h7
theorem below_set7 {w0 w : World} {B g : Nat} (h : Below B w0 w) (hB : B ≤ g) (v0 v1 v2 v3 v4 v5 v6 : Value) : Below B w0 (((((((w.setCell ⟨g, 0, none⟩ v0).setCell ⟨g, 1, none⟩ v1).setCell ⟨g, 2, none⟩ v2).setCell ⟨g, 3, none⟩ v3).setCell ⟨g, 4, none⟩ v4).setCell ⟨g, 5, none⟩ v5).setCell ⟨g, 6, none⟩ v6) :=
  ((((((h.setCell hB v0).setCell hB v1).setCell hB v2).setCell hB v3).setCell hB v4).setCell hB v5).setCell hB v6

/-- Stores into a block that is new. -/
theorem Step.newCells {p : Lab → Prop} {L L' : Labs} {w w' : World} (s : Step p L w L' w') {R : Nat} (hR : w.heap.size ≤ R) (vs : List Value) (o : Nat) : Step p L w L' (w'.setCells R o vs) :=
  have t := Step.setCells (p := fun _ => True) (fun _ => none) (b := R) trivial vs w' o
  ⟨t.os.trans s.os, t.tape.trans s.tape, t.output.trans s.output, Nat.le_trans s.size t.size, s.lab, fun k hk hp => (heap_setCells vs o (by omega)).trans (s.block k hk hp)⟩

/-- A store into a batch's pause. -/
theorem Ret.put {w : World} {L : Labs} {who gr k n p : Nat} {rs : List Ret} {r : Ret} {a b : Int} (h : RowAt w L (some (who, .rt)) 189 2 (.slice (some ⟨gr, 0, none⟩) n k) n (rs.flatMap Ret.cells)) (hb : rs[p]? = some r) :
    RowAt ((w.setCell ⟨gr, p * 2, none⟩ (.int .i64 a)).setCell ⟨gr, p * 2 + 1, none⟩ (.int .i64 b)) L (some (who, .rt)) 189 2 (.slice (some ⟨gr, 0, none⟩) n k) n ((rs.set p ⟨a, b⟩).flatMap Ret.cells) ∧ Step (fun l => l = some (who, .rt)) L w L ((w.setCell ⟨gr, p * 2, none⟩ (.int .i64 a)).setCell ⟨gr, p * 2 + 1, none⟩ (.int .i64 b)) := by
  have hl : L gr = some (who, .rt) := h.2 gr (by simp [Value.ownBlock])
  have h1 := h.set (p * 2 + 0) (.int .i64 a)
  rw [flat_set Ret.cells 2 (fun _ => rfl) rs p 0 r ⟨a, r.pa⟩ (.int .i64 a) (by omega) hb rfl] at h1
  have hb1 : (rs.set p ⟨a, r.pa⟩)[p]? = some ⟨a, r.pa⟩ := by rw [List.getElem?_set_self (List.getElem?_eq_some_iff.1 hb).1]
  have h2 := h1.set (p * 2 + 1) (.int .i64 b)
  rw [flat_set Ret.cells 2 (fun _ => rfl) _ p 1 ⟨a, r.pa⟩ ⟨a, b⟩ (.int .i64 b) (by omega) hb1 rfl, List.set_set] at h2
  exact ⟨h2, (Step.setCell _ _ _ _ hl).trans (Step.setCell _ _ _ _ hl)⟩

/-- An agent whose pauses have turned. -/
theorem AgAt.paused {w w' : World} {L L' : Labs} {who g : Nat} {M : Ag} {bq bm cn : Nat} {tv dv nv rv ov : Value} {rt : List Ret} (h : AgAt w L who g M bq bm cn tv dv nv rv ov) (s : Step (fun l => l = some (who, .rt)) L w L' w') (hr : RowAt w' L' (some (who, .rt)) 189 2 rv rt.length (rt.flatMap Ret.cells)) : AgAt w' L' who g { M with rt := rt } bq bm cn tv dv nv rv ov :=
  ⟨h.blk.keep s (by simp), h.tk.keep s (by simp), h.qs.keep s (by simp) (by simp), h.dd.keep s (by simp), h.nm.keep s (by simp), hr, h.ol.keep s (by simp) (by simp) (by simp), h.cm.keep s (by simp)⟩

/-- What a failure makes of an agent's pauses. -/
def Ag.paused (M : Ag) (p : Nat) (r : Ret) (draw : Int) : Ag := { M with rt := M.rt.set p ⟨M.now + nextPause M.c r.pa draw, nextPause M.c r.pa draw⟩ }

set_option maxRecDepth 100000 in
set_option maxHeartbeats 1000000 in
theorem lose_die (L : Labs) (who g p : Nat) (M : Ag) (b : Bat) (draw : Int) (w : World) (hA : AgentAt w L who g M) (hb : M.bs[p]? = some b) (h0 : 0 ≤ b.fl) (h1 : b.fl ≤ 1000) (hd : M.c.at' ≤ b.fl + 1) :
    Calls Tryz.prog 117 #[.pointer (some ⟨g, 0, none⟩), .int .i64 p, .int .i64 draw] w fun e w' => e = .returned (Ev.of 3 p 1).val ∧ Below w.heap.size w w' := by
  have hpl := (List.getElem?_eq_some_iff.1 hb).1
  obtain ⟨gt, gk, bq, bm, cn, dv, nv, rv, ov, h⟩ := hA.parts (by omega)
  have hgl := h.blk.1.lt
  have c0 : w.cell? ⟨g, 0, none⟩ = some (.slice (some ⟨gt, 0, none⟩) M.bs.length gk) := h.blk.1.cell 0
  have c7 : w.cell? ⟨g, 7, none⟩ = some (.int .i64 M.c.at') := h.blk.1.cell 7
  obtain ⟨g', e', hlt, _, hcell, _⟩ := h.tk.head (by omega)
  obtain rfl : gt = g' := by simpa using e'
  have t5 : w.cell? ⟨gt, p * 6 + 5, none⟩ = some (.int .i64 b.fl) := hcell _ _ (flat_cell Bat.cells 6 Bat.cells_length hb (by omega) rfl)
  have hpI : (p : Int) < (M.bs.length : Int) := by omega
  unfold Ev.val Ev.of noBat
  clear h hcell e' hb hA
  go_enter Tryz.func117, Tryz.ntmps117
  go_wp2_with fail
  go_quiet (fail)
  go_wp2_with fail
  have hR := Blk.set7 ((Blk.new w #[.int .i64 0, .int .i64 0, .string ⟨#[]⟩, .string ⟨#[]⟩, .string ⟨#[]⟩, .int .i64 0, .int .i64 0] 151).drewN nq) rfl (.int .i64 3) (.int .i64 0) (.string ⟨#[]⟩) (.string ⟨#[]⟩) (.string ⟨#[]⟩) (.int .i64 p) (.int .i64 1)
  refine bodyPost_ret (v := .agg #[.int .i64 3, .int .i64 0, .string ⟨#[]⟩, .string ⟨#[]⟩, .string ⟨#[]⟩, .int .i64 p, .int .i64 1]) (results_cell1 Tryz.results117 rfl (run_loadVar_mid _ _ 0 151 [.int .i64 3, .int .i64 0, .string ⟨#[]⟩, .string ⟨#[]⟩, .string ⟨#[]⟩, .int .i64 p, .int .i64 1] _ (hR.range 0 _ rfl) Tryz.underlying151 rfl infoEv)) rfl ⟨rfl, ?_⟩
  exact below_set7 (below_drewN ((Below.refl _ _).alloc (Nat.le_refl _) _) nq) (Nat.le_refl _) _ _ _ _ _ _ _

set_option maxRecDepth 100000 in
set_option maxHeartbeats 2000000 in
theorem lose_fail (L : Labs) (who g p : Nat) (M : Ag) (b : Bat) (r : Ret) (draw : Int) (w : World) (hLn : ∀ k, w.heap.size ≤ k → L k = none) (hA : AgentAt w L who g M) (hb : M.bs[p]? = some b) (hr : M.rt[p]? = some r) (h0 : 0 ≤ b.fl) (h1 : b.fl ≤ 1000) (hd : ¬ M.c.at' ≤ b.fl + 1)
    (hc : M.c.Ok) (hp1 : M.c.ba ≤ r.pa) (hp2 : r.pa ≤ M.c.ca) (hdr : 0 ≤ draw) (hn0 : 0 ≤ M.now) (hn1 : M.now ≤ 1000000000000000000) :
    Calls Tryz.prog 117 #[.pointer (some ⟨g, 0, none⟩), .int .i64 p, .int .i64 draw] w fun e w' => e = .returned (Ev.of 2 p 1).val ∧ AgentAt w' L who g (M.paused p r draw) ∧ Step (ofP who) L w L w' := by
  have hpl := (List.getElem?_eq_some_iff.1 hb).1
  have hrl := (List.getElem?_eq_some_iff.1 hr).1
  obtain ⟨gt, gk, bq, bm, cn, dv, nv, rv, ov, h⟩ := hA.parts (by omega)
  have hgl := h.blk.1.lt
  obtain ⟨ra, rk, rfl, _⟩ := h.rt.shape
  obtain ⟨gr, rfl, hgr, hlabr, hcr, hfr⟩ := h.rt.head (by omega)
  have c0 : w.cell? ⟨g, 0, none⟩ = some (.slice (some ⟨gt, 0, none⟩) M.bs.length gk) := h.blk.1.cell 0
  have c16 : w.cell? ⟨g, 16, none⟩ = some (.int .i64 M.now) := h.blk.1.cell 16
  have c17 : w.cell? ⟨g, 17, none⟩ = some (.slice (some ⟨gr, 0, none⟩) M.rt.length rk) := h.blk.1.cell 17
  obtain ⟨k0, k1, k2, k3, k4, k5, k6, k7, k8, k9, k10⟩ : w.cell? ⟨g, 4, none⟩ = some (.int .i64 M.c.d) ∧ w.cell? ⟨g, 4 + 1, none⟩ = some (.map (some bm)) ∧ w.cell? ⟨g, 4 + 2, none⟩ = some (.int .i64 M.c.q) ∧ w.cell? ⟨g, 4 + 3, none⟩ = some (.int .i64 M.c.at') ∧ w.cell? ⟨g, 4 + 4, none⟩ = some (.int .i64 M.c.ba) ∧ w.cell? ⟨g, 4 + 5, none⟩ = some (.int .i64 M.c.ca) ∧ w.cell? ⟨g, 4 + 6, none⟩ = some (.int .i64 M.c.ti) ∧ w.cell? ⟨g, 4 + 7, none⟩ = some (.int .i64 M.c.wi) ∧ w.cell? ⟨g, 4 + 8, none⟩ = some (.int .i64 M.c.le) ∧ w.cell? ⟨g, 4 + 9, none⟩ = some (.float .f64 M.c.th) ∧ w.cell? ⟨g, 4 + 10, none⟩ = some (.int .i64 M.c.op) := ⟨h.blk.1.cell 4, h.blk.1.cell 5, h.blk.1.cell 6, h.blk.1.cell 7, h.blk.1.cell 8, h.blk.1.cell 9, h.blk.1.cell 10, h.blk.1.cell 11, h.blk.1.cell 12, h.blk.1.cell 13, h.blk.1.cell 14⟩
  obtain ⟨g', e', hlt, _, hcell, _⟩ := h.tk.head (by omega)
  obtain rfl : gt = g' := by simpa using e'
  have t5 : w.cell? ⟨gt, p * 6 + 5, none⟩ = some (.int .i64 b.fl) := hcell _ _ (flat_cell Bat.cells 6 Bat.cells_length hb (by omega) rfl)
  have r0 : w.cell? ⟨gr, p * 2, none⟩ = some (.int .i64 r.fr) := hcr (p * 2 + 0) _ (flat_cell Ret.cells 2 (fun _ => rfl) hr (by omega) rfl)
  have r1 : w.cell? ⟨gr, p * 2 + 1, none⟩ = some (.int .i64 r.pa) := hcr _ _ (flat_cell Ret.cells 2 (fun _ => rfl) hr (by omega) rfl)
  have hpI : (p : Int) < (M.bs.length : Int) := by omega
  have hpR : (p : Int) < (M.rt.length : Int) := by omega
  have hpb := nextPause_bd hc (draw := draw) hp1
  have hca := hc.ca
  have hba := hc.ba
  have HNP := hide (fun w1 => nextPause_any M.c (some bm) r.pa draw w1 hc hp1 hp2 hdr)
  generalize hnp : nextPause M.c r.pa draw = np at *
  have HH := hide h
  have Hr := hide hr
  have HLn := hide hLn
  have Hnp := hide hnp
  have hfr0 := hfr (p * 2)
  have hfr1 := hfr (p * 2 + 1)
  unfold Ev.val Ev.of noBat
  clear h hcell e' hb hA hr hcr hfr hc hnp hLn
  go_enter Tryz.func117, Tryz.ntmps117
  go_wp2_with fail
  go_quiet (fail)
  go_wp2_with fail
  generalize hV : World.drewN (World.alloc w _) _ = V
  have hBV : Below w.heap.size w V := by rw [← hV]; exact below_drewN ((Below.refl w.heap.size w).alloc (Nat.le_refl _) _) _
  have hNV : Blk V w.heap.size #[.int .i64 0, .int .i64 0, .string ⟨#[]⟩, .string ⟨#[]⟩, .string ⟨#[]⟩, .int .i64 0, .int .i64 0] 151 := by rw [← hV]; exact (Blk.new w _ _).drewN _
  have v17 : V.cell? ⟨g, 17, none⟩ = some (.slice (some ⟨gr, 0, none⟩) M.rt.length rk) := (hBV.cell (p := ⟨g, 17, none⟩) hgl).trans c17
  have v1 : V.cell? ⟨gr, p * 2 + 1, none⟩ = some (.int .i64 r.pa) := (hBV.cell (p := ⟨gr, p * 2 + 1, none⟩) hgr).trans r1
  obtain ⟨y0, y1, y2, y3, y4, y5, y6, y7, y8, y9, y10⟩ : V.cell? ⟨g, 4, none⟩ = some (.int .i64 M.c.d) ∧ V.cell? ⟨g, 4 + 1, none⟩ = some (.map (some bm)) ∧ V.cell? ⟨g, 4 + 2, none⟩ = some (.int .i64 M.c.q) ∧ V.cell? ⟨g, 4 + 3, none⟩ = some (.int .i64 M.c.at') ∧ V.cell? ⟨g, 4 + 4, none⟩ = some (.int .i64 M.c.ba) ∧ V.cell? ⟨g, 4 + 5, none⟩ = some (.int .i64 M.c.ca) ∧ V.cell? ⟨g, 4 + 6, none⟩ = some (.int .i64 M.c.ti) ∧ V.cell? ⟨g, 4 + 7, none⟩ = some (.int .i64 M.c.wi) ∧ V.cell? ⟨g, 4 + 8, none⟩ = some (.int .i64 M.c.le) ∧ V.cell? ⟨g, 4 + 9, none⟩ = some (.float .f64 M.c.th) ∧ V.cell? ⟨g, 4 + 10, none⟩ = some (.int .i64 M.c.op) := ⟨(hBV.cell (p := ⟨g, 4, none⟩) hgl).trans k0, (hBV.cell (p := ⟨g, 5, none⟩) hgl).trans k1, (hBV.cell (p := ⟨g, 6, none⟩) hgl).trans k2, (hBV.cell (p := ⟨g, 7, none⟩) hgl).trans k3, (hBV.cell (p := ⟨g, 8, none⟩) hgl).trans k4, (hBV.cell (p := ⟨g, 9, none⟩) hgl).trans k5, (hBV.cell (p := ⟨g, 10, none⟩) hgl).trans k6, (hBV.cell (p := ⟨g, 11, none⟩) hgl).trans k7, (hBV.cell (p := ⟨g, 12, none⟩) hgl).trans k8, (hBV.cell (p := ⟨g, 13, none⟩) hgl).trans k9, (hBV.cell (p := ⟨g, 14, none⟩) hgl).trans k10⟩
  have HBV := hide hBV
  have HNV := hide hNV
  clear hV hBV hNV k0 k1 k2 k3 k4 k5 k6 k7 k8 k9 k10
  go_cut [7] (fun s7 wx => s7 = .int .i64 np ∧ Below V.heap.size V wx)
  case first =>
    go_region_with ((go_at_call 146; refine (HNP.out _).mono ?_; rintro e w2 ⟨rfl, hb2⟩))
    all_goals
      go_wp2_with fail
      go_meet
      exact ⟨rfl, ((Below.refl V.heap.size V).drew).trans hb2⟩
  case rest =>
  obtain ⟨rfl, hbc⟩ := hcut
  generalize hwc : wc = W at *
  have hBW : Below w.heap.size w W := HBV.out.trans (hbc.mono HBV.out.size)
  have HNW := hide (HNV.out.below hbc HNV.out.lt)
  have x16 : W.cell? ⟨g, 16, none⟩ = some (.int .i64 M.now) := (hBW.cell (p := ⟨g, 16, none⟩) hgl).trans c16
  have x17 : W.cell? ⟨g, 17, none⟩ = some (.slice (some ⟨gr, 0, none⟩) M.rt.length rk) := (hBW.cell (p := ⟨g, 17, none⟩) hgl).trans c17
  have x0 : W.cell? ⟨gr, p * 2, none⟩ = some (.int .i64 r.fr) := (hBW.cell (p := ⟨gr, p * 2, none⟩) hgr).trans r0
  have x1 : W.cell? ⟨gr, p * 2 + 1, none⟩ = some (.int .i64 r.pa) := (hBW.cell (p := ⟨gr, p * 2 + 1, none⟩) hgr).trans r1
  have f0 : W.frozen? ⟨gr, p * 2, none⟩ = false := (hBW.frozen (p := ⟨gr, p * 2, none⟩) hgr).trans hfr0
  have f1 : W.frozen? ⟨gr, p * 2 + 1, none⟩ = false := (hBW.frozen (p := ⟨gr, p * 2 + 1, none⟩) hgr).trans hfr1
  have HU : Hid (AgentAt (((W.setCell ⟨gr, p * 2, none⟩ (.int .i64 (M.now + np))).setCell ⟨gr, p * 2 + 1, none⟩ (.int .i64 np)).drew) L who g (M.paused p r draw) ∧ Step (ofP who) L w L (((W.setCell ⟨gr, p * 2, none⟩ (.int .i64 (M.now + np))).setCell ⟨gr, p * 2 + 1, none⟩ (.int .i64 np)).drew) ∧
      Blk (((W.setCell ⟨gr, p * 2, none⟩ (.int .i64 (M.now + np))).setCell ⟨gr, p * 2 + 1, none⟩ (.int .i64 np)).drew) w.heap.size #[.int .i64 0, .int .i64 0, .string ⟨#[]⟩, .string ⟨#[]⟩, .string ⟨#[]⟩, .int .i64 0, .int .i64 0] 151) := by
    have s1 : Step (fun l => l = some (who, .rt)) L w L W := Step.of_below hBW
    obtain ⟨a2, s2⟩ := Ret.put (a := M.now + np) (b := np) (HH.out.rt.keep (Step.of_below (p := fun _ => False) hBW) (fun h => h)) Hr.out
    have hA2 := AgAt.paused (rt := M.rt.set p ⟨M.now + np, np⟩) HH.out (s1.trans s2) (by rw [List.length_set]; exact a2)
    have hne : w.heap.size ≠ gr := by omega
    refine ⟨⟨bq, bm, cn, .slice (some ⟨gt, 0, none⟩) M.bs.length gk, dv, nv, .slice (some ⟨gr, 0, none⟩) M.rt.length rk, ov, ?_⟩, ((s1.trans s2).mono (fun l h => ⟨_, h⟩)).trans (Step.drew L _), ?_⟩
    · unfold Ag.paused
      rw [Hnp.out]
      exact hA2.keep (Step.drew (p := fun _ => False) L _) (fun _ h => h)
    · exact ((HNW.out.other ⟨gr, p * 2, none⟩ (.int .i64 (M.now + np)) hne).other ⟨gr, p * 2 + 1, none⟩ (.int .i64 np) hne).drewN 1
  have hwl : gr < W.heap.size := Nat.lt_of_lt_of_le hgr hBW.size
  clear hwc hbc hBW v17 v1 y0 y1 y2 y3 y4 y5 y6 y7 y8 y9 y10 c0 c16 c17 r0 r1 hfr0 hfr1 t5
  go_upto_region 4 with fail
  go_cut [] (fun wx => AgentAt wx L who g (M.paused p r draw) ∧ Step (ofP who) L w L wx ∧ Blk wx w.heap.size #[.int .i64 0, .int .i64 0, .string ⟨#[]⟩, .string ⟨#[]⟩, .string ⟨#[]⟩, .int .i64 0, .int .i64 0] 151)
  case first =>
    go_region
    all_goals
      go_wp2_with fail
      go_meet
      exact HU.out
  case rest =>
  obtain ⟨hA9, hS9, hN9⟩ := hcut
  generalize hwc : wc = X at *
  have HA9 := hide hA9
  have HS9 := hide hS9
  have HN9 := hide hN9
  have n0 : X.cell? ⟨w.heap.size, 0, none⟩ = some (.int .i64 0) := hN9.cell 0
  have n1 : X.cell? ⟨w.heap.size, 1, none⟩ = some (.int .i64 0) := hN9.cell 1
  have n2 : X.cell? ⟨w.heap.size, 2, none⟩ = some (.string ⟨#[]⟩) := hN9.cell 2
  have n3 : X.cell? ⟨w.heap.size, 3, none⟩ = some (.string ⟨#[]⟩) := hN9.cell 3
  have n4 : X.cell? ⟨w.heap.size, 4, none⟩ = some (.string ⟨#[]⟩) := hN9.cell 4
  have n5 : X.cell? ⟨w.heap.size, 5, none⟩ = some (.int .i64 0) := hN9.cell 5
  have n6 : X.cell? ⟨w.heap.size, 6, none⟩ = some (.int .i64 0) := hN9.cell 6
  have nf := fun o => hN9.frozen o
  have hnl := hN9.lt
  clear hwc hA9 hS9 hN9 x16 x17 x0 x1 f0 f1
  go_wp2_with fail
  have hR := Blk.set7 HN9.out rfl (.int .i64 2) (.int .i64 0) (.string ⟨#[]⟩) (.string ⟨#[]⟩) (.string ⟨#[]⟩) (.int .i64 p) (.int .i64 1)
  refine bodyPost_ret (v := .agg #[.int .i64 2, .int .i64 0, .string ⟨#[]⟩, .string ⟨#[]⟩, .string ⟨#[]⟩, .int .i64 p, .int .i64 1]) (results_cell1 Tryz.results117 rfl (run_loadVar_mid _ _ 0 151 [.int .i64 2, .int .i64 0, .string ⟨#[]⟩, .string ⟨#[]⟩, .string ⟨#[]⟩, .int .i64 p, .int .i64 1] _ (hR.range 0 _ rfl) Tryz.underlying151 rfl infoEv)) rfl ⟨rfl, ?_⟩
  have hLR : L w.heap.size = none := HLn.out _ (Nat.le_refl _)
  exact ⟨HA9.out.keep (p := fun l => l = none) (Step.setCells L (by exact hLR) [.int .i64 2, .int .i64 0, .string ⟨#[]⟩, .string ⟨#[]⟩, .string ⟨#[]⟩, .int .i64 p, .int .i64 1] X 0) (fun q h => by cases h), HS9.out.newCells (Nat.le_refl _) [.int .i64 2, .int .i64 0, .string ⟨#[]⟩, .string ⟨#[]⟩, .string ⟨#[]⟩, .int .i64 p, .int .i64 1] 0⟩
end Go.Proofs.YtojpjaifhjigfaaGreatDoor

/- settle: the send that is under way ends. -/
namespace Go.Proofs.YtojpjaifhjigfaaGreatDoor
open Go.RowKit Go.Maps

/-- What settle wants: a send is under way, of a batch that is pending. -/
structure SetOk (M : Ag) (d : Nat) (o : Out) (p : Nat) (b : Bat) (r : Ret) (draw : Int) : Prop where
  ho : M.os[d]? = some o
  way : o.way = p
  hb : M.bs[p]? = some b
  hr : M.rt[p]? = some r
  f0 : 0 ≤ b.fl
  f1 : b.fl ≤ 1000
  r0 : 0 ≤ o.res
  r1 : o.res ≤ 63
  l0 : 0 ≤ o.fl
  l1 : o.fl ≤ o.res
  c : M.c.Ok
  p1 : M.c.ba ≤ r.pa
  p2 : r.pa ≤ M.c.ca
  dr : 0 ≤ draw
  n0 : 0 ≤ M.now
  n1 : M.now ≤ 1000000000000000000

/-- The agent behind the breaker's hearing. -/
def Ag.heard (M : Ag) (d : Nat) (o : Out) (good : Bool) : Ag := { M with os := M.os.set d ({ o with way := -1 }.heard M.c M.now good) }
theorem settled_eq {M : Ag} {d : Nat} {o : Out} {p : Nat} {b : Bat} {r : Ret} {draw : Int} (h : SetOk M d o p b r draw) (good : Bool) :
    M.settled d good draw = if good then (M.heard d o good, Ev.of 1 p 0) else if M.c.at' ≤ b.fl + 1 then (M.heard d o good, Ev.of 3 p 1) else ((M.heard d o good).paused p r draw, Ev.of 2 p 1) := by
  have hp : o.way.toNat = p := by rw [h.way]; simp
  unfold Ag.settled
  rw [h.ho]
  simp only [hp, h.hb, h.hr]
  cases good <;> rfl

/-- What settle leaves. -/
def Settled (w : World) (L : Labs) (who g : Nat) (x : Ag × Ev) (e : Ending) (w' : World) : Prop := e = .returned x.2.val ∧ AgentAt w' L who g x.1 ∧ Step (ofP who) L w L w'

theorem zev_other {w w' : World} {L L' : Labs} {who R : Nat} {cs : Array Value} (s : Step (ofP who) L w L' w') (h : Blk w R cs 151) (hL : L R = none) : Blk w' R cs 151 := s.free h (by rw [hL]; rintro ⟨q, hq⟩; cases hq)

set_option maxRecDepth 100000 in
set_option maxHeartbeats 4000000 in
theorem settle_core (L : Labs) (who g d p : Nat) (M : Ag) (o : Out) (b : Bat) (r : Ret) (good : Bool) (draw : Int) (w : World) (hLn : ∀ k, w.heap.size ≤ k → L k = none) (hA : AgentAt w L who g M) (hs : SetOk M d o p b r draw) :
    Calls Tryz.prog 73 #[.pointer (some ⟨g, 0, none⟩), .int .i64 d, .bool good, .int .i64 draw] w fun e w' => Settled w L who g (M.settled d good draw) e w' := by
  obtain ⟨bq, bm, cn, tv, dv, nv, rv, ov, h⟩ := hA
  have hdl := (List.getElem?_eq_some_iff.1 hs.ho).1
  obtain ⟨go, ok, rfl, hF⟩ := h.focus hs.ho
  have hgl := h.blk.1.lt
  have hop := hs.c.op
  have c18 : w.cell? ⟨g, 18, none⟩ = some (.slice (some ⟨go, 0, none⟩) M.os.length ok) := h.blk.1.cell 18
  have HFin := hide (fun x => finish_any L who M.c.th go ok d M.os o (w.alloc x) (hF.alloc x))
  rw [hs.way] at HFin
  have HHear := hide (fun w1 h1 => hear_any L who go ok d M.os { o with way := -1 } good M.c (some bm) M.now w1 h1 hs.r0 hs.r1 hs.l0 hs.l1 hs.n0 hs.n1 (by omega) hop.2)
  have HH := hide h
  have Hs := hide hs
  have HLn := hide hLn
  have HEq := hide (settled_eq hs good)
  have hdI : (d : Int) < (M.os.length : Int) := by omega
  have hLR : L w.heap.size = none := hLn _ (Nat.le_refl _)
  have HLR := hide hLR
  clear h hF hs hLn hop hLR
  go_enter Tryz.func73, Tryz.ntmps73
  go_wp2_with fail
  refine (HFin.out _).mono ?_
  rintro e w1 ⟨rfl, hF1, hS1⟩
  have hN1 : Blk w1 w.heap.size #[.int .i64 0, .int .i64 0, .string ⟨#[]⟩, .string ⟨#[]⟩, .string ⟨#[]⟩, .int .i64 0, .int .i64 0] 151 := hS1.free (Blk.new w _ _) (by rw [HLR.out]; simp [olP])
  have hS1w : Step (olP who) L w L w1 := (Step.alloc L w _).trans hS1
  have hB1 : BlkAt w1 L (some (who, .ag)) g _ 138 := HH.out.blk.keep hS1w (by simp [olP])
  have c16 : w1.cell? ⟨g, 16, none⟩ = some (.int .i64 M.now) := hB1.1.cell 16
  obtain ⟨y0, y1, y2, y3, y4, y5, y6, y7, y8, y9, y10⟩ : w1.cell? ⟨g, 4, none⟩ = some (.int .i64 M.c.d) ∧ w1.cell? ⟨g, 4 + 1, none⟩ = some (.map (some bm)) ∧ w1.cell? ⟨g, 4 + 2, none⟩ = some (.int .i64 M.c.q) ∧ w1.cell? ⟨g, 4 + 3, none⟩ = some (.int .i64 M.c.at') ∧ w1.cell? ⟨g, 4 + 4, none⟩ = some (.int .i64 M.c.ba) ∧ w1.cell? ⟨g, 4 + 5, none⟩ = some (.int .i64 M.c.ca) ∧ w1.cell? ⟨g, 4 + 6, none⟩ = some (.int .i64 M.c.ti) ∧ w1.cell? ⟨g, 4 + 7, none⟩ = some (.int .i64 M.c.wi) ∧ w1.cell? ⟨g, 4 + 8, none⟩ = some (.int .i64 M.c.le) ∧ w1.cell? ⟨g, 4 + 9, none⟩ = some (.float .f64 M.c.th) ∧ w1.cell? ⟨g, 4 + 10, none⟩ = some (.int .i64 M.c.op) := ⟨hB1.1.cell 4, hB1.1.cell 5, hB1.1.cell 6, hB1.1.cell 7, hB1.1.cell 8, hB1.1.cell 9, hB1.1.cell 10, hB1.1.cell 11, hB1.1.cell 12, hB1.1.cell 13, hB1.1.cell 14⟩
  have HF1 := hide hF1
  have HS1 := hide hS1w
  have HN1 := hide hN1
  have hgl1 := hB1.1.lt
  clear hF1 hS1 hS1w hN1 hB1 c18
  go_upto_region 3 with fail
  go_cut [10] (fun s10 wx => s10 = .int .i64 p ∧ AgAt wx L who g (M.heard d o good) bq bm cn tv dv nv rv (.slice (some ⟨go, 0, none⟩) M.os.length ok) ∧ Step (ofP who) L w L wx ∧ Blk wx w.heap.size #[.int .i64 0, .int .i64 0, .string ⟨#[]⟩, .string ⟨#[]⟩, .string ⟨#[]⟩, .int .i64 0, .int .i64 0] 151)
  case first =>
    go_region_with ((go_at_call 116; refine (HHear.out _ (by first | exact HF1.out | exact HF1.out.drew)).mono ?_; rintro e w2 ⟨rfl, hF2, hS2⟩))
    all_goals
      go_wp2_with fail
      go_meet
      have hS2' : Step (olP who) L w1 L w2 := by first | exact hS2 | exact (Step.drew L _).trans hS2
      have hSw := HS1.out.trans hS2'
      refine ⟨rfl, HH.out.outs hSw (fun q h => by simp [olP] at h; exact Or.inl h) hF2.2, hSw.mono (fun l h => ⟨_, h⟩), hS2'.free HN1.out (by rw [HLR.out]; simp [olP])⟩
  case rest =>
  obtain ⟨rfl, hA2, hS2, hN2⟩ := hcut
  generalize hwc : wc = X at *
  have HA2 : Hid (AgentAt X L who g (M.heard d o good)) := ⟨bq, bm, cn, tv, dv, nv, rv, _, hA2⟩
  have HS2 := hide hS2
  have HNX := hide hN2
  have HLX : Hid (∀ k, X.heap.size ≤ k → L k = none) := fun k hk => HLn.out k (Nat.le_trans hS2.size hk)
  clear hwc hA2 hS2 hN2 c16 y0 y1 y2 y3 y4 y5 y6 y7 y8 y9 y10
  cases good
  · by_cases hd : M.c.at' ≤ b.fl + 1
    · have HLo := hide (lose_die L who g p (M.heard d o false) b draw X HA2.out Hs.out.hb Hs.out.f0 Hs.out.f1 hd)
      unfold Ev.val Ev.of noBat at HLo
      have Hd := hide hd
      clear hd
      go_wp2_with fail
      refine HLo.out.mono ?_
      rintro e w3 ⟨rfl, hb3⟩
      have HA3 := hide (HA2.out.keep (Step.of_below (p := fun _ => False) hb3) (fun _ h => h))
      have HS3 : Hid (Step (ofP who) L w L w3) := HS2.out.trans (Step.of_below hb3)
      have HNX := hide (HNX.out.below hb3 HNX.out.lt)
      clear hb3
      have n0 : w3.cell? ⟨w.heap.size, 0, none⟩ = some (.int .i64 0) := HNX.out.cell 0
      have n1 : w3.cell? ⟨w.heap.size, 1, none⟩ = some (.int .i64 0) := HNX.out.cell 1
      have n2 : w3.cell? ⟨w.heap.size, 2, none⟩ = some (.string ⟨#[]⟩) := HNX.out.cell 2
      have n3 : w3.cell? ⟨w.heap.size, 3, none⟩ = some (.string ⟨#[]⟩) := HNX.out.cell 3
      have n4 : w3.cell? ⟨w.heap.size, 4, none⟩ = some (.string ⟨#[]⟩) := HNX.out.cell 4
      have n5 : w3.cell? ⟨w.heap.size, 5, none⟩ = some (.int .i64 0) := HNX.out.cell 5
      have n6 : w3.cell? ⟨w.heap.size, 6, none⟩ = some (.int .i64 0) := HNX.out.cell 6
      have nf := fun o => HNX.out.frozen o
      have hnl := HNX.out.lt
      go_wp2_with fail
      have hR := Blk.set7 HNX.out rfl (.int .i64 3) (.int .i64 0) (.string ⟨#[]⟩) (.string ⟨#[]⟩) (.string ⟨#[]⟩) (.int .i64 p) (.int .i64 1)
      refine bodyPost_ret (v := .agg #[.int .i64 3, .int .i64 0, .string ⟨#[]⟩, .string ⟨#[]⟩, .string ⟨#[]⟩, .int .i64 p, .int .i64 1]) (results_cell1 Tryz.results73 rfl (run_loadVar_mid _ _ 0 151 [.int .i64 3, .int .i64 0, .string ⟨#[]⟩, .string ⟨#[]⟩, .string ⟨#[]⟩, .int .i64 p, .int .i64 1] _ (hR.range 0 _ rfl) Tryz.underlying151 rfl infoEv)) rfl ?_
      rw [HEq.out, if_neg (by simp), if_pos Hd.out]
      exact ⟨rfl, HA3.out.keep (p := fun l => l = none) (Step.setCells L (by exact HLR.out) [.int .i64 3, .int .i64 0, .string ⟨#[]⟩, .string ⟨#[]⟩, .string ⟨#[]⟩, .int .i64 p, .int .i64 1] w3 0) (fun q h => by cases h), HS3.out.newCells (Nat.le_refl _) [.int .i64 3, .int .i64 0, .string ⟨#[]⟩, .string ⟨#[]⟩, .string ⟨#[]⟩, .int .i64 p, .int .i64 1] 0⟩
    · have HLo := hide (lose_fail L who g p (M.heard d o false) b r draw X HLX.out HA2.out Hs.out.hb Hs.out.hr Hs.out.f0 Hs.out.f1 hd Hs.out.c Hs.out.p1 Hs.out.p2 Hs.out.dr Hs.out.n0 Hs.out.n1)
      unfold Ev.val Ev.of noBat at HLo
      have Hd := hide hd
      clear hd
      go_wp2_with fail
      refine HLo.out.mono ?_
      rintro e w3 ⟨rfl, hA3, hS3⟩
      have HA3 := hide hA3
      have HS3 : Hid (Step (ofP who) L w L w3) := HS2.out.trans hS3
      have HNX := hide (zev_other hS3 HNX.out HLR.out)
      clear hA3 hS3
      have n0 : w3.cell? ⟨w.heap.size, 0, none⟩ = some (.int .i64 0) := HNX.out.cell 0
      have n1 : w3.cell? ⟨w.heap.size, 1, none⟩ = some (.int .i64 0) := HNX.out.cell 1
      have n2 : w3.cell? ⟨w.heap.size, 2, none⟩ = some (.string ⟨#[]⟩) := HNX.out.cell 2
      have n3 : w3.cell? ⟨w.heap.size, 3, none⟩ = some (.string ⟨#[]⟩) := HNX.out.cell 3
      have n4 : w3.cell? ⟨w.heap.size, 4, none⟩ = some (.string ⟨#[]⟩) := HNX.out.cell 4
      have n5 : w3.cell? ⟨w.heap.size, 5, none⟩ = some (.int .i64 0) := HNX.out.cell 5
      have n6 : w3.cell? ⟨w.heap.size, 6, none⟩ = some (.int .i64 0) := HNX.out.cell 6
      have nf := fun o => HNX.out.frozen o
      have hnl := HNX.out.lt
      go_wp2_with fail
      have hR := Blk.set7 HNX.out rfl (.int .i64 2) (.int .i64 0) (.string ⟨#[]⟩) (.string ⟨#[]⟩) (.string ⟨#[]⟩) (.int .i64 p) (.int .i64 1)
      refine bodyPost_ret (v := .agg #[.int .i64 2, .int .i64 0, .string ⟨#[]⟩, .string ⟨#[]⟩, .string ⟨#[]⟩, .int .i64 p, .int .i64 1]) (results_cell1 Tryz.results73 rfl (run_loadVar_mid _ _ 0 151 [.int .i64 2, .int .i64 0, .string ⟨#[]⟩, .string ⟨#[]⟩, .string ⟨#[]⟩, .int .i64 p, .int .i64 1] _ (hR.range 0 _ rfl) Tryz.underlying151 rfl infoEv)) rfl ?_
      rw [HEq.out, if_neg (by simp), if_neg (show ¬ M.c.at' ≤ b.fl + 1 by have := Hd.out; omega)]
      exact ⟨rfl, HA3.out.keep (p := fun l => l = none) (Step.setCells L (by exact HLR.out) [.int .i64 2, .int .i64 0, .string ⟨#[]⟩, .string ⟨#[]⟩, .string ⟨#[]⟩, .int .i64 p, .int .i64 1] w3 0) (fun q h => by cases h), HS3.out.newCells (Nat.le_refl _) [.int .i64 2, .int .i64 0, .string ⟨#[]⟩, .string ⟨#[]⟩, .string ⟨#[]⟩, .int .i64 p, .int .i64 1] 0⟩
  · have n0 : X.cell? ⟨w.heap.size, 0, none⟩ = some (.int .i64 0) := HNX.out.cell 0
    have n1 : X.cell? ⟨w.heap.size, 1, none⟩ = some (.int .i64 0) := HNX.out.cell 1
    have n2 : X.cell? ⟨w.heap.size, 2, none⟩ = some (.string ⟨#[]⟩) := HNX.out.cell 2
    have n3 : X.cell? ⟨w.heap.size, 3, none⟩ = some (.string ⟨#[]⟩) := HNX.out.cell 3
    have n4 : X.cell? ⟨w.heap.size, 4, none⟩ = some (.string ⟨#[]⟩) := HNX.out.cell 4
    have n5 : X.cell? ⟨w.heap.size, 5, none⟩ = some (.int .i64 0) := HNX.out.cell 5
    have n6 : X.cell? ⟨w.heap.size, 6, none⟩ = some (.int .i64 0) := HNX.out.cell 6
    have nf := fun o => HNX.out.frozen o
    have hnl := HNX.out.lt
    go_wp2_with fail
    have hR := Blk.set7 HNX.out rfl (.int .i64 1) (.int .i64 0) (.string ⟨#[]⟩) (.string ⟨#[]⟩) (.string ⟨#[]⟩) (.int .i64 p) (.int .i64 0)
    refine bodyPost_ret (v := .agg #[.int .i64 1, .int .i64 0, .string ⟨#[]⟩, .string ⟨#[]⟩, .string ⟨#[]⟩, .int .i64 p, .int .i64 0]) (results_cell1 Tryz.results73 rfl (run_loadVar_mid _ _ 0 151 [.int .i64 1, .int .i64 0, .string ⟨#[]⟩, .string ⟨#[]⟩, .string ⟨#[]⟩, .int .i64 p, .int .i64 0] _ (hR.range 0 _ rfl) Tryz.underlying151 rfl infoEv)) rfl ?_
    rw [HEq.out, if_pos trivial]
    exact ⟨rfl, HA2.out.keep (p := fun l => l = none) (Step.setCells L (by exact HLR.out) [.int .i64 1, .int .i64 0, .string ⟨#[]⟩, .string ⟨#[]⟩, .string ⟨#[]⟩, .int .i64 p, .int .i64 0] X 0) (fun q h => by cases h), HS2.out.newCells (Nat.le_refl _) [.int .i64 1, .int .i64 0, .string ⟨#[]⟩, .string ⟨#[]⟩, .string ⟨#[]⟩, .int .i64 p, .int .i64 0] 0⟩

theorem settle_any (L : Labs) (who g d p : Nat) (M : Ag) (o : Out) (b : Bat) (r : Ret) (good : Bool) (draw : Int) (w : World) (hA : AgentAt w L who g M) (hs : SetOk M d o p b r draw) :
    Calls Tryz.prog 73 #[.pointer (some ⟨g, 0, none⟩), .int .i64 d, .bool good, .int .i64 draw] w fun e w' => e = .returned (M.settled d good draw).2.val ∧ Turned w L who g (M.settled d good draw).1 w' := by
  refine (settle_core (clip L w.heap.size) who g d p M o b r good draw w (fun k hk => clip_none L hk) (hA.keep (Step.clipped (p := fun _ => False) L w) (fun _ h => h)) hs).mono ?_
  rintro e w' ⟨rfl, h1, h2⟩
  exact ⟨rfl, _, h1, (Step.clipped L w).trans h2⟩
end Go.Proofs.YtojpjaifhjigfaaGreatDoor

/- giveUp: each send that has been under way for too long ends. -/
namespace Go.Proofs.YtojpjaifhjigfaaGreatDoor
open Go.RowKit Go.Maps

/-- What one destination asks of an agent: all is within its bounds; what is under way is pending. -/
structure OutOk (M : Ag) (d : Nat) (o : Out) : Prop where
  r0 : 0 ≤ o.res
  r1 : o.res ≤ 63
  l0 : 0 ≤ o.fl
  l1 : o.fl ≤ o.res
  w0 : o.way = -1 ∨ ∃ (p : Nat) (b : Bat) (r : Ret), o.way = p ∧ M.bs[p]? = some b ∧ M.rt[p]? = some r ∧ b.st = 1 ∧ b.dst = d ∧ 0 ≤ b.fl ∧ b.fl < M.c.at' ∧ M.c.ba ≤ r.pa ∧ r.pa ≤ M.c.ca
  b0 : 0 ≤ o.began
  b1 : o.began ≤ M.now

/-- What giveUp wants. -/
structure GiveOk (M : Ag) (draw : Int) : Prop where
  c : M.c.Ok
  dr : 0 ≤ draw
  n0 : 0 ≤ M.now
  n1 : M.now ≤ 1000000000000000000
  o4 : M.os.length ≤ 4
  os : ∀ d o, M.os[d]? = some o → OutOk M d o

/-- What stays of an agent as long as giveUp goes on: all but destinations and pauses. -/
structure Gave (M M' : Ag) (k : Nat) : Prop where
  c : M'.c = M.c
  D : M'.D = M.D
  ns : M'.ns = M.ns
  bs : M'.bs = M.bs
  dead : M'.dead = M.dead
  log : M'.log = M.log
  now : M'.now = M.now
  len : M'.os.length = M.os.length
  os : ∀ d, k ≤ d → M'.os[d]? = M.os[d]?
  rl : M'.rt.length = M.rt.length
  rt : ∀ (p : Nat) (r : Ret), M.rt[p]? = some r → M.c.ba ≤ r.pa → r.pa ≤ M.c.ca → ∃ r' : Ret, M'.rt[p]? = some r' ∧ M.c.ba ≤ r'.pa ∧ r'.pa ≤ M.c.ca

theorem Gave.refl (M : Ag) : Gave M M 0 := ⟨rfl, rfl, rfl, rfl, rfl, rfl, rfl, rfl, fun _ _ => rfl, rfl, fun _ r h h1 h2 => ⟨r, h, h1, h2⟩⟩
theorem Gave.step {M M' : Ag} {k : Nat} (h : Gave M M' k) : Gave M M' (k + 1) := ⟨h.c, h.D, h.ns, h.bs, h.dead, h.log, h.now, h.len, fun d hd => h.os d (by omega), h.rl, h.rt⟩

theorem Gave.mono0 {M M' : Ag} (h : Gave M M' 0) (k : Nat) : Gave M M' k := ⟨h.c, h.D, h.ns, h.bs, h.dead, h.log, h.now, h.len, fun d _ => h.os d (Nat.zero_le _), h.rl, h.rt⟩
theorem heard_gave (M : Ag) (d : Nat) (o : Out) (good : Bool) : Gave M (M.heard d o good) (d + 1) :=
  ⟨rfl, rfl, rfl, rfl, rfl, rfl, rfl, by simp [Ag.heard], fun i hi => by simp only [Ag.heard]; rw [List.getElem?_set_ne (by omega)], rfl, fun _ r h h1 h2 => ⟨r, h, h1, h2⟩⟩
theorem paused_gave {M M' : Ag} {k : Nat} (h : Gave M M' k) (hc : M.c.Ok) (p : Nat) (r : Ret) (draw : Int) (hr1 : M.c.ba ≤ r.pa) : Gave M (M'.paused p r draw) k := by
  refine ⟨h.c, h.D, h.ns, h.bs, h.dead, h.log, h.now, h.len, h.os, by simp [Ag.paused, h.rl], fun q x hx h1 h2 => ?_⟩
  obtain ⟨r', e1, e2, e3⟩ := h.rt q x hx h1 h2
  simp only [Ag.paused]
  rw [List.getElem?_set]
  split
  · rename_i e
    subst e
    have hb := nextPause_bd hc (draw := draw) hr1
    rw [h.c]
    exact ⟨_, by rw [if_pos (List.getElem?_eq_some_iff.1 e1).1], hb.1, hb.2⟩
  · exact ⟨r', e1, e2, e3⟩
theorem Gave.trans {M M1 M2 : Ag} {k j : Nat} (h : Gave M M1 k) (g : Gave M1 M2 j) (hkj : k ≤ j) : Gave M M2 j :=
  ⟨g.c.trans h.c, g.D.trans h.D, g.ns.trans h.ns, g.bs.trans h.bs, g.dead.trans h.dead, g.log.trans h.log, g.now.trans h.now, g.len.trans h.len, fun d hd => (g.os d hd).trans (h.os d (by omega)), g.rl.trans h.rl, fun p r hr h1 h2 => by
    obtain ⟨r1, a1, a2, a3⟩ := h.rt p r hr h1 h2
    obtain ⟨r2, b1, b2, b3⟩ := g.rt p r1 a1 (by rw [h.c]; exact a2) (by rw [h.c]; exact a3)
    exact ⟨r2, b1, by rw [h.c] at b2; exact b2, by rw [h.c] at b3; exact b3⟩⟩

/-- settle's wants, at a destination that giveUp comes to. -/
theorem GiveOk.set {M M' : Ag} {draw : Int} {k : Nat} {o : Out} (h : GiveOk M draw) (g : Gave M M' k) (ho : M.os[k]? = some o) (hw : o.way ≠ -1) : ∃ p b r, SetOk M' k o p b r draw ∧ b.st = 1 ∧ b.dst = k ∧ M.bs[p]? = some b ∧ b.fl < M.c.at' := by
  have ok := h.os k o ho
  rcases ok.w0 with e | ⟨p, b, r, h1, h2, h3, h4, h5, h6, h7, h8, h9⟩
  · exact absurd e hw
  · obtain ⟨r', a1, a2, a3⟩ := g.rt p r h3 h8 h9
    have hat := h.c.at'
    exact ⟨p, b, r', ⟨(g.os k (Nat.le_refl _)).trans ho, h1, by rw [g.bs]; exact h2, a1, h6, by omega, ok.r0, ok.r1, ok.l0, ok.l1, by rw [g.c]; exact h.c, by rw [g.c]; exact a2, by rw [g.c]; exact a3, h.dr, by rw [g.now]; exact h.n0, by rw [g.now]; exact h.n1⟩, h4, h5, h2, h7⟩
theorem settled_gave {M : Ag} {d : Nat} {o : Out} {p : Nat} {b : Bat} {r : Ret} {draw : Int} (h : SetOk M d o p b r draw) (good : Bool) : Gave M (M.settled d good draw).1 (d + 1) := by
  rw [settled_eq h good]
  split
  · exact heard_gave M d o good
  split
  · exact heard_gave M d o good
  · exact paused_gave (heard_gave M d o good) h.c p r draw h.p1
theorem gaveUp_gave {M : Ag} {draw : Int} (h : GiveOk M draw) : ∀ k, Gave M (M.gaveUp draw k).1 k
  | 0 => Gave.refl M
  | k + 1 => by
    have ih := gaveUp_gave h k
    unfold Ag.gaveUp
    cases ho : M.os[k]? with
    | none => simpa [ho] using ih.step
    | some o =>
      simp only
      split
      · rename_i hw
        obtain ⟨p, b, r, hs, _⟩ := h.set ih ho hw.1
        exact ih.trans (settled_gave hs false) (by omega)
      · exact ih.step
theorem gaveUp_len {M : Ag} {draw : Int} : ∀ k, (M.gaveUp draw k).2.length ≤ k
  | 0 => Nat.le_refl _
  | k + 1 => by
    have ih := gaveUp_len (M := M) (draw := draw) k
    unfold Ag.gaveUp
    cases ho : M.os[k]? with
    | none => simp only; omega
    | some o =>
      simp only
      split
      · simp; omega
      · omega
end Go.Proofs.YtojpjaifhjigfaaGreatDoor

/- giveUp: the walk. -/
namespace Go.Proofs.YtojpjaifhjigfaaGreatDoor
open Go.RowKit Go.Maps

theorem infoEvent3 : (Tryz.prog.info? 151).map (fun i => (i.zero, i.size, i.bytes)) = some (some (.agg #[.int .i64 0, .int .i64 0, .string ⟨#[]⟩, .string ⟨#[]⟩, .string ⟨#[]⟩, .int .i64 0, .int .i64 0]), 7, 80) := by kernel_rfl

/-- An owner that nobody is yet. -/
theorem fresh_owner (L : Labs) : ∀ n : Nat, ∃ N : Nat, ∀ k, k < n → ∀ m q, L k = some (m, q) → m < N
  | 0 => ⟨0, fun k hk => by omega⟩
  | n + 1 => by
    obtain ⟨N, hN⟩ := fresh_owner L n
    refine ⟨N + (match L n with | some (m, _) => m + 1 | none => 0), fun k hk m q h => ?_⟩
    rcases Nat.lt_succ_iff_lt_or_eq.1 hk with h1 | h1
    · have := hN k h1 m q h
      omega
    · subst h1
      rw [h]
      simp only
      omega
theorem Step.fresh {p : Lab → Prop} {l : Lab} {L L' : Labs} {w w' : World} (s : Step (fun x => p x ∨ x = l) L w L' w') (h : ∀ k, k < w.heap.size → L k ≠ l) : Step p L w L' w' :=
  ⟨s.os, s.tape, s.output, s.size, s.lab, fun k hk hn => s.block k hk (fun e => by
    rcases e with e | e
    · exact hn e
    · exact h k hk e)⟩

/-- What giveUp leaves. -/
def GaveUp (w : World) (L : Labs) (l : Lab) (who g : Nat) (x : Ag × List Ev) (e : Ending) (w' : World) : Prop := ∃ v L', e = .returned v ∧ RowAt w' L' l 151 7 v x.2.length (x.2.flatMap Ev.cells) ∧ AgentAt w' L' who g x.1 ∧ Step (ofP who) L w L' w'

set_option maxRecDepth 100000 in
set_option maxHeartbeats 4000000 in
theorem giveUp_any (L : Labs) (l : Lab) (who g : Nat) (M : Ag) (draw : Int) (w : World) (hl : ¬ ofP who l) (hfr : ∀ k, k < w.heap.size → L k ≠ l) (hA : AgentAt w L who g M) (h : GiveOk M draw) :
    Calls Tryz.prog 69 #[.pointer (some ⟨g, 0, none⟩), .int .i64 draw] w fun e w' => GaveUp w L l who g (M.gaveUp draw M.os.length) e w' := by
  have ho4 := h.o4
  have hti := h.c.ti
  have hn0 := h.n0
  have hn1 := h.n1
  have HG := hide (gaveUp_gave h)
  have HL := hide (fun k => gaveUp_len (M := M) (draw := draw) k)
  have H := hide h
  have HA := hide hA
  have Hfr := hide hfr
  have c18 : ∃ oa ok, w.cell? ⟨g, 18, none⟩ = some (.slice oa M.os.length ok) := by
    obtain ⟨bq, bm, cn, tv, dv, nv, rv, ov, q⟩ := hA
    obtain ⟨fs, h1, h2, h3⟩ := q.ol
    obtain ⟨oa, ok, rfl, _⟩ := h2.shape
    exact ⟨oa, ok, q.blk.1.cell 18⟩
  obtain ⟨oa, ok, c18⟩ := c18
  obtain ⟨i0, hi, hz0, hz1, hz2⟩ := info_parts infoEvent3
  generalize hn : M.os.length = n at *
  have Hn := hide hn
  clear h hA hfr hn
  go_enter Tryz.func69, Tryz.ntmps69
  go_wp2_with fail
  go_loopw [5, 13] (fun t i wr => ∃ (k : Nat) (L1 : Labs) (ea : Option Addr) (m ek : Nat), k ≤ n ∧ i = .int .i64 k ∧ t = .slice ea m ek ∧ m = (M.gaveUp draw k).2.length ∧ RowAt wr L1 l 151 7 (.slice ea m ek) m ((M.gaveUp draw k).2.flatMap Ev.cells) ∧ AgentAt wr L1 who g (M.gaveUp draw k).1 ∧ Step (fun x => ofP who x ∨ x = l) L w L1 wr) (fun _ i _ => n - (intOf i).toNat)
  case atStart => exact ⟨0, L, none, 0, 0, Nat.zero_le _, rfl, rfl, rfl, RowAt.nil _ _ _ _ _, HA.out, Step.refl _ _ _⟩
  case round =>
    obtain ⟨k, L1, ea, m, ek, hk, rfl, rfl, hm, hrow, hA1, hS1⟩ := hrel
    have Hm := hide hm
    have Hrow := hide hrow
    have HA1 := hide hA1
    have HS1 := hide hS1
    have hm4 : m ≤ 4 := by rw [hm]; have := HL.out k; omega
    clear hm hrow hA1 hS1
    by_cases hlt : k < n
    · have hltI : (k : Int) < (n : Int) := by omega
      obtain ⟨o, ho⟩ : ∃ o, M.os[k]? = some o := ⟨_, List.getElem?_eq_getElem (by rw [Hn.out]; exact hlt)⟩
      have hg := HG.out k
      obtain ⟨bq, bm, cn, tv, dv, nv, rv, ov, hAt⟩ := HA1.out
      obtain ⟨go, gk, rfl, hF⟩ := hAt.focus ((hg.os k (Nat.le_refl _)).trans ho)
      rw [hg.len, Hn.out] at hAt
      obtain ⟨g2, ca, ck, hC⟩ := hF.cells
      have d18 : wr.cell? ⟨g, 18, none⟩ = some (.slice (some ⟨go, 0, none⟩) n gk) := hAt.blk.1.cell 18
      have d16 : wr.cell? ⟨g, 16, none⟩ = some (.int .i64 M.now) := by have := hAt.blk.1.cell 16; rw [show _ = _ from this]; simp [agCells, hg.now]
      have d10 : wr.cell? ⟨g, 10, none⟩ = some (.int .i64 M.c.ti) := by have := hAt.blk.1.cell 10; rw [show _ = _ from this]; simp [agCells, hg.c]
      have e8 := hC.c8
      have e9 := hC.c9
      have hok := H.out.os k o ho
      have hb0 := hok.b0
      have hb1 := hok.b1
      have HStep : Hid (M.gaveUp draw (k + 1) = if o.way ≠ -1 ∧ M.c.ti ≤ M.now - o.began then (((M.gaveUp draw k).1.settled k false draw).1, (M.gaveUp draw k).2 ++ [((M.gaveUp draw k).1.settled k false draw).2]) else M.gaveUp draw k) := by
        show _ = _
        rw [Ag.gaveUp, ho]
      have HBusy := hide (fun w1 h1 => isBusy_any go (k * 10) o.way w1 h1)
      have Ho := hide ho
      have E8 := hide e8
      clear hAt hF hC hok ho hg
      by_cases hw : o.way = -1
      · have hwb : (o.way != -1) = false := by simp [hw]
        rw [hwb] at HBusy
        have Hw := hide hw
        clear hw hwb e8
        go_wp2_with fail
        go_quiet ((go_at_call 111; exact Calls.quiet_of_same (HBusy.out _ (by exact E8.out))))
        go_wp2_with fail
        go_roundw
        case rel =>
          refine ⟨k + 1, L1, ea, m, ek, by omega, by go_num, rfl, ?_, ?_, ?_, HS1.out.trans (Step.drewN L1 wr _)⟩
          · rw [HStep.out, if_neg (fun h => h.1 Hw.out)]; exact Hm.out
          · rw [HStep.out, if_neg (fun h => h.1 Hw.out)]; exact Hrow.out.keep (Step.drewN (p := fun _ => False) L1 wr _) (fun h => h)
          · rw [HStep.out, if_neg (fun h => h.1 Hw.out)]; exact HA1.out.keep (Step.drewN (p := fun _ => False) L1 wr _) (fun _ h => h)
        case measure => simp [intOf]; omega
      · have hwb : (o.way != -1) = true := by simp [hw]
        rw [hwb] at HBusy
        have Hw := hide hw
        clear hw hwb e8
        by_cases hto : M.c.ti ≤ M.now - o.began
        · have Hto := hide hto
          obtain ⟨p, b, r, hs, _⟩ := H.out.set (HG.out k) Ho.out Hw.out
          have HSet := hide (fun W hW => settle_any L1 who g k p (M.gaveUp draw k).1 o b r false draw W hW hs)
          obtain ⟨sx, hsx⟩ : ∃ sx, (M.gaveUp draw k).1.settled k false draw = sx := ⟨_, rfl⟩
          rw [hsx] at HSet HStep
          unfold Ev.val at HSet
          clear hs hsx
          go_wp2_with fail
          go_quiet ((go_at_call 111; exact Calls.quiet_of_same (HBusy.out _ (by exact E8.out))))
          go_wp2_with fail
          refine (HSet.out _ (HA1.out.keep (Step.drewN (p := fun _ => False) L1 wr _) (fun _ h => h))).mono ?_
          rintro e w2 ⟨rfl, L2, hA2, hS2⟩
          have HA2 := hide hA2
          have hS2' : Step (ofP who) L1 wr L2 w2 := (Step.drewN L1 wr _).trans hS2
          have HR2 := hide (Hrow.out.keep hS2' hl)
          have HS2 : Hid (Step (fun x => ofP who x ∨ x = l) L w L2 w2) := HS1.out.trans (hS2'.mono (fun x h => Or.inl h))
          clear hA2 hS2 hS2'
          go_wp2_with (first
            | (at_builtin; refine wpList_append_lies _ rfl _ _ 140 rfl 0 151 i0 (.agg #[.int .i64 0, .int .i64 0, .string ⟨#[]⟩, .string ⟨#[]⟩, .string ⟨#[]⟩, .int .i64 0, .int .i64 0]) 7 80 Tryz.underlying140 hi hz0 hz1 hz2 rfl (by decide) (.slice ea m ek) m _ rfl (HR2.out.1.alloc _) ⟨w2.heap.size, 0, none⟩ 1 1 sx.2.cells rfl rfl (World.news_of_block (cs := sx.2.cells.toArray) (t := 151) (fr := (0, 0)) (heap_alloc_new w2 _)) (by simp [Value.oneCell', Ev.cells, encStr]) (by decide) (by unfold maxLen; omega) (by omega) (Nat.zero_le _) (w2.heap.size + 1) (by simp) ?_; intro g3 cap3 w3 hown3 hg3 hat3 hlt3; have Ho3 := hide hown3; have Hg3 := hide hg3; have Hat3 := hide hat3; clear hown3 hg3 hat3)
            | fail)
          go_roundw
          case rel =>
            have hyes : o.way ≠ -1 ∧ M.c.ti ≤ M.now - o.began := ⟨Hw.out, Hto.out⟩
            have hat : (Value.slice ea m ek).ownBlock = some g3 ∨ (w2.alloc (.cells sx.2.cells.toArray 151)).heap.size ≤ g3 := Hat3.out.imp id (fun e => by simp; omega)
            have hR2' := HR2.out.keep (Step.alloc (p := fun _ => False) L2 w2 (.cells sx.2.cells.toArray 151)) (fun h => h)
            obtain ⟨hrow3, hlab3⟩ := RowAt.appended hR2' Ho3.out hat
            have hsa : Step (fun x => x = l) L2 w2 (lay L2 g3 l) w3 := (Step.alloc L2 w2 _).trans (Step.of_grown Hg3.out (fun j hj => hR2'.2 j hj) hlab3)
            refine ⟨k + 1, lay L2 g3 l, some ⟨g3, 0, none⟩, m + 1, cap3, by omega, by go_num, rfl, ?_, ?_, ?_, HS2.out.trans (hsa.mono (fun x h => Or.inr h))⟩
            · rw [HStep.out, if_pos hyes, List.length_append, Hm.out]; rfl
            · rw [HStep.out, if_pos hyes, List.flatMap_append]
              simpa using hrow3
            · rw [HStep.out, if_pos hyes]
              exact HA2.out.keep hsa (fun q h => hl ⟨q, h.symm⟩)
          case measure => simp [intOf]; omega
        · have Hto := hide hto
          go_wp2_with fail
          go_quiet ((go_at_call 111; exact Calls.quiet_of_same (HBusy.out _ (by exact E8.out))))
          go_wp2_with fail
          go_roundw
          case rel =>
            have hno : ¬ (o.way ≠ -1 ∧ M.c.ti ≤ M.now - o.began) := fun h => by have := Hto.out; omega
            refine ⟨k + 1, L1, ea, m, ek, by omega, by go_num, rfl, ?_, ?_, ?_, HS1.out.trans (Step.drewN L1 wr _)⟩
            · rw [HStep.out, if_neg hno]; exact Hm.out
            · rw [HStep.out, if_neg hno]; exact Hrow.out.keep (Step.drewN (p := fun _ => False) L1 wr _) (fun h => h)
            · rw [HStep.out, if_neg hno]; exact HA1.out.keep (Step.drewN (p := fun _ => False) L1 wr _) (fun _ h => h)
          case measure => simp [intOf]; omega
    · have hkn : k = n := by omega
      subst hkn
      go_wp2_with fail
      go_ret
      refine ⟨_, L1, rfl, ?_, HA1.out, HS1.out.fresh Hfr.out⟩
      rw [← Hm.out]
      exact Hrow.out
end Go.Proofs.YtojpjaifhjigfaaGreatDoor
