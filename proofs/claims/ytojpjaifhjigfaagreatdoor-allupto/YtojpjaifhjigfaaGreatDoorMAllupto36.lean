/- Steps of the proof (several texts in one): AllStepPre, AllStep, AllStep2. -/
import Derived.Test.YtojpjaifhjigfaaGreatDoorMAllupto35

/- (*World).step, of every kind up to 9. -/
namespace Go.Proofs.YtojpjaifhjigfaaGreatDoor
open Go.RowKit Go.Maps

/-- What holds of all pairs between the steps. -/
def AllX (X : WS) : Prop := ∀ i, i < X.np → PExt X.t (X.ag i) (X.pd i)
def labP : Lab → Prop := fun l => l ≠ none
theorem someP_lab {l : Lab} (h : someP l) : labP l := h.1
theorem pairP_lab {i : Nat} {l : Lab} (h : pairP i l) : labP l := fun e => pairP_none i (e ▸ h)
/-- How far a step goes. -/
structure Far (X X' : WS) : Prop where
  np0 : X.np ≤ X'.np
  np1 : X'.np ≤ X.np + 1
  t4 : X'.nt % 4 = 0
  nt : X'.nt ≤ X.nt + 8
  s4 : X'.ns % 4 = 0
  ns : X'.ns ≤ X.ns + 4
  nm : X'.nm ≤ X.nm + 2
  t : X'.t = X.t + 200
/-- The law's world behind a step. -/
def SteppedA (w : World) (L : Labs) (gw : Nat) (A : Nat → Addr) (cur : Array Value) (X : WS) (w' : World) : Prop :=
  ∃ L' cur' X', WAt w' L' gw A cur' X' ∧ AllX X' ∧ Far X X' ∧ (∀ i, i < 22 ∨ i = 26 → cur'[i]? = cur[i]?) ∧ Step labP L w L' w'
/-- What a step wants of the world. -/
structure StepOkA (cur : Array Value) (X : WS) : Prop where
  m9 : cur[26]? = some (.int .i64 9)
  t4 : X.nt % 4 = 0
  s4 : X.ns % 4 = 0
  n1 : 1 ≤ X.np
  np : X.np ≤ 8000000
  nt : X.nt + 8 ≤ 8000000
  ns : X.ns + 4 ≤ 8000000
  nm : X.nm + 2 ≤ 8000000
  tt : X.t + 1 ≤ 4000000000

theorem refusal_le (M : Ag) (b : Bat) : M.refusal b ≤ 11 := by
  unfold Ag.refusal Ag.misfit
  (repeat' split) <;> omega
theorem pickIs (z : Int) (h0 : -9223372036854775808 ≤ z) (h1 : z ≤ 9223372036854775807) : PickIs z (pickN z 2) := fun w => pick_any z 2 w h0 h1 (by omega)
theorem Inv.small {M : Ag} {t : Nat} (h : Inv M t) : ∀ b ∈ M.bs, 0 ≤ b.st ∧ b.st ≤ 3 ∧ 0 ≤ b.fl ∧ b.fl ≤ 10 := fun b hb => by
  obtain ⟨_, _, _, _, _, _, h0, h1⟩ := h.each b hb
  have ha : 1 ≤ M.c.at' ∧ M.c.at' ≤ 10 := by
    have := List.all_eq_true.1 h.good.1 (M.c.at', 1, 10) (by simp [Cfg.nums])
    simpa [inB] using this
  omega


theorem grew_tickTo {M : Ag} {t : Nat} {ms draw : Int} (hi : Inv M t) (ht : t + 1 ≤ 10000000000000) : Grew M (M.tickTo ms draw) := by
  unfold Ag.tickTo
  by_cases hb : tickB ms draw = true
  · obtain ⟨b1, b2, b3⟩ := tickB_true hb
    rw [if_pos hb]
    exact grew_ticked hi ht b1 b2 b3
  · rw [if_neg hb]; exact Grew.refl M
theorem linv_tickTo {M : Ag} {t : Nat} {ms draw : Int} (h : LInv M) (hi : Inv M t) (ht : t + 1 ≤ 10000000000000) : LInv (M.tickTo ms draw) := by
  unfold Ag.tickTo
  by_cases hb : tickB ms draw = true
  · obtain ⟨b1, b2, b3⟩ := tickB_true hb
    rw [if_pos hb]
    exact h.ticked hi ht b1 b2 b3
  · rw [if_neg hb]; exact h
theorem ids_tickTo {M : Ag} {t : Nat} {ms draw : Int} (h : IdsOk M.bs) (hi : Inv M t) (ht : t + 1 ≤ 10000000000000) : IdsOk (M.tickTo ms draw).bs := by
  unfold Ag.tickTo
  by_cases hb : tickB ms draw = true
  · obtain ⟨b1, b2, b3⟩ := tickB_true hb
    rw [if_pos hb]
    exact h.ticked hi ht b1 b2 b3
  · rw [if_neg hb]; exact h
theorem answered_out {M : Ag} {R : Rf} {d try' draw : Int} (hs : Sim M R) (h0 : R.stale d try' draw = 0) : 0 ≤ draw ∧ ∃ o, M.os[d.toNat]? = some o ∧ o.way ≠ -1 := by
  obtain ⟨a1, a2, a3, l, a4, a5, a6⟩ := stale_zero h0
  obtain ⟨o, ho, hol⟩ := hs.line' a4
  exact ⟨a3, o, ho, by have := hol.way; omega⟩
theorem grew_answered {M : Ag} {R : Rf} {t : Nat} {d try' : Int} {good : Bool} {draw : Int} (hs : Sim M R) (hi : Inv M t) (ht : t ≤ 10000000000000) : Grew M (M.answered R d try' good draw) := by
  unfold Ag.answered
  by_cases h0 : R.stale d try' draw = 0
  · obtain ⟨a, o, b, c⟩ := answered_out hs h0
    rw [if_pos h0]
    exact grew_replied hi ht a b c good
  · rw [if_neg h0]; exact Grew.refl M
theorem linv_answered {M : Ag} {R : Rf} {t : Nat} {d try' : Int} {good : Bool} {draw : Int} (h : LInv M) (hs : Sim M R) (hi : Inv M t) (ht : t ≤ 10000000000000) : LInv (M.answered R d try' good draw) := by
  unfold Ag.answered
  by_cases h0 : R.stale d try' draw = 0
  · obtain ⟨a, o, b, c⟩ := answered_out hs h0
    rw [if_pos h0]
    exact h.replied hi ht a b c good
  · rw [if_neg h0]; exact h
theorem ids_answered {M : Ag} {R : Rf} {t : Nat} {d try' : Int} {good : Bool} {draw : Int} (h : IdsOk M.bs) (hs : Sim M R) (hi : Inv M t) (ht : t ≤ 10000000000000) : IdsOk (M.answered R d try' good draw).bs := by
  unfold Ag.answered
  by_cases h0 : R.stale d try' draw = 0
  · obtain ⟨a, o, b, c⟩ := answered_out hs h0
    rw [if_pos h0]
    exact h.replied hi ht a b c good
  · rw [if_neg h0]; exact h

/-- Behind the switch, ahead of stood. -/
def Mid (L : Labs) (gw : Nat) (A : Nat → Addr) (cur : Array Value) (X : WS) (i : Nat) (w w2 : World) : Prop :=
  ∃ L2 cur2 X2, WAt w2 L2 gw A cur2 X2 ∧ X2.ps = X.ps ∧ X2.pd = X.pd ∧ (∀ j, j ≠ i → X2.ag j = X.ag j) ∧ Grew (X.ag i) (X2.ag i) ∧ LInv (X2.ag i) ∧ IdsOk (X2.ag i).bs ∧
    (X2.np = X.np ∧ X2.nt % 4 = 0 ∧ X2.nt ≤ X.nt + 8 ∧ X2.ns % 4 = 0 ∧ X2.ns ≤ X.ns + 4 ∧ X2.nm ≤ X.nm + 2 ∧ X.t ≤ X2.t ∧ X2.t ≤ X.t + 1) ∧ (∀ q, q < 22 ∨ q = 26 → cur2[q]? = cur[q]?) ∧ Step someP L w L2 w2
theorem Mid.c26 {L : Labs} {gw : Nat} {A : Nat → Addr} {cur : Array Value} {X : WS} {i : Nat} {w w2 : World} (h : Mid L gw A cur X i w w2) {v : Value} (hc : cur[26]? = some v) : w2.cell? ⟨gw, 26, none⟩ = some v := by
  obtain ⟨L2, cur2, X2, q1, _, _, _, _, _, _, _, q9, _⟩ := h
  rw [q1.blk.1.cell 26, q9 26 (by omega)]
  exact hc
theorem mid_tail {L : Labs} {gw : Nat} {A : Nat → Addr} {cur : Array Value} {X : WS} {i gp : Nat} {w w2 : World} {z1 : Int} (h : Mid L gw A cur X i w w2) (htt : X.t + 1 ≤ 4000000000) (hv : X.ps[i]? = some (.pointer (some ⟨gp, 0, none⟩))) (hPx : PExt X.t (X.ag i) (X.pd i)) (hX : AllX X) (hi : i < X.np) (hz : lastsOf (X.ag i).bs = z1) :
    ∃ gy, w2.cell? ⟨gp, 1, none⟩ = some (.pointer (some ⟨gy, 0, none⟩)) ∧ ∃ z2, (Calls Tryz.prog 47 #[.pointer (some ⟨gy, 0, none⟩)] w2 fun e w3 => e = .returned (.int .i64 z2) ∧ Below w2.heap.size w2 w3) ∧
      ∀ w3, Below w2.heap.size w2 w3 → Calls Tryz.prog 54 #[.pointer (some ⟨gp, 0, none⟩), .bool (z2 != z1)] w3 fun e w4 => e = .returned (.bool true) ∧ SteppedA w L gw A cur X w4 := by
  obtain ⟨L2, cur2, X2, q1, q2, q3, q4, q5, q6, q7, ⟨n1, n2, n3, n4, n5, n6, n7, n8⟩, q9, q10⟩ := h
  have hv2 : X2.ps[i]? = some (.pointer (some ⟨gp, 0, none⟩)) := by rw [q2]; exact hv
  obtain ⟨gp', e, hP⟩ := q1.pr i _ hv2
  obtain rfl : gp = gp' := by simpa using e
  have hP' := hP
  obtain ⟨gx, gy, r1, r2, r3, r4, r5, r6, r7⟩ := hP
  have hsm : ∀ b ∈ (X2.rf i).bs, 0 ≤ b.st ∧ b.st ≤ 3 ∧ 0 ≤ b.fl ∧ b.fl ≤ 10 := by rw [r4.bs]; exact r5.small
  refine ⟨gy, r1.1.cell 1, lastsOf (X2.rf i).bs, lasts_any L2 (2 * i + 2) gy (X2.rf i) w2 r3 (r4.r120 r5) hsm, fun w3 hb3 => ?_⟩
  obtain ⟨ch, hch⟩ : ∃ ch, ch = (lastsOf (X2.rf i).bs != z1) := ⟨_, rfl⟩
  rw [← hch]
  have hch' : ch = (lastsOf (X2.ag i).bs != lastsOf (X.ag i).bs) := by rw [hch, r4.bs, hz]
  have hi3 : Inv (X2.ag i) (X.t + 1) := r5.more n8
  have hP3 : PairAt w3 L2 i gp X2.t (X2.ag i) (X2.rf i) (X2.pd i) := hP'.keep (Step.of_below (p := fun _ => False) hb3) (fun h => h) (fun _ _ _ h => h) (fun _ h => h) (fun _ h => h) (Nat.le_refl _)
  obtain ⟨_, ext, x1, x2⟩ := hPx.stood (R' := X2.rf i) (t' := X.t + 1) q5 hi3 q6 q7 (Nat.le_refl _) r4 hch' (.slice none 0 0)
  have hlg : (X2.pd i).lg = encStr (X.ag i).log := by rw [q3]; exact hPx.lg
  have hll : (X2.ag i).log.length ≤ 140737488355328 := by have := hi3.lg; omega
  have hsl : (X2.pd i).sts.length ≤ 8000000000 := by rw [q3]; have := hPx.len; omega
  refine (stood_core L2 i gp X2.t (X2.ag i) (X2.rf i) (X2.pd i) (X.ag i).log ext ch w3 hP3 hlg x1 x2 hll hsl).mono ?_
  rintro e w4 ⟨rfl, L4, sv4, hP4, hS4⟩
  have hW4 := (q1.below hb3).pairTo hv2 hP4 (Nat.le_refl _) (hS4.mono (fun l h => Or.inr (Or.inr h)))
  refine ⟨rfl, L4, cur2, _, hW4.later (X.t + 200) (by show X2.t ≤ _; omega), fun j hj => ?_, ⟨?_, ?_, n2, n3, n4, n5, n6, rfl⟩, q9, ((q10.mono (fun l h => someP_lab h)).trans (Step.of_below hb3)).trans (hS4.mono (fun l h => pairP_lab (i := i) (Or.inr (Or.inr h))))⟩
  · show PExt (X.t + 200) (upd X2.ag i (X2.ag i) j) (upd X2.pd i _ j)
    have hj' : j < X2.np := hj
    by_cases ej : j = i
    · subst ej
      rw [upd_self, upd_self]
      have := (hPx.stood (R' := X2.rf j) (t' := X.t + 1) q5 hi3 q6 q7 (Nat.le_refl _) r4 hch' sv4).1
      rw [← q3] at this
      exact this.more (by omega)
    · rw [upd_other _ _ ej, upd_other _ _ ej, q4 j ej, q3]
      exact (hX j (by omega)).more (by omega)
  · show X.np ≤ X2.np; omega
  · show X2.np ≤ X.np + 1; omega

theorem crash_done {A : Nat → Addr} {L : Labs} {gw : Nat} {cur : Array Value} {X : WS} {i gp : Nat} {w w1 : World} {cut : Int} (hX : AllX X) (h : WAt w L gw A cur X) (hv : X.ps[i]? = some (.pointer (some ⟨gp, 0, none⟩))) (hi : i < X.np) (hb : Below w.heap.size w w1) (h4 : X.nt % 4 = 0) (h4s : X.ns % 4 = 0) (h0 : -9223372036854775808 ≤ cut) (h1 : cut ≤ 9223372036854775807) (htt : X.t + 1 ≤ 4000000000) :
    Calls Tryz.prog 52 #[.pointer (some ⟨gp, 0, none⟩), .int .i64 cut] w1 fun e w' => e = .returned (.bool true) ∧ SteppedA w L gw A cur X w' := by
  have hPx := hX i hi
  have hw1 := h.below hb
  obtain ⟨gp', e, hP⟩ := hw1.pr i _ hv
  obtain rfl : gp = gp' := by simpa using e
  have hin : Inv (X.ag i) X.t := by obtain ⟨_, _, _, _, _, _, r5, _, _⟩ := hP; exact r5
  refine (crashed_core A L i gp X.t (X.ag i) (X.rf i) (X.pd i) cut w1 hw1.err.hs hP hPx.lg hPx.st hPx.c hPx.D hPx.so h0 h1 (by have := hin.lg; omega) (by have := hPx.len; omega)).mono ?_
  rintro e w' ⟨rfl, L', sv', j, s, Mj, q1, q2, q3, q4⟩
  have hW := hw1.pairTo hv q3 (Nat.le_refl _) (q4.mono (fun l h => Or.inr (Or.inr h)))
  refine ⟨rfl, L', cur, _, hW.later (X.t + 200) (by show X.t ≤ _; omega), fun k hk => ?_, ⟨Nat.le_refl _, Nat.le_succ _, h4, Nat.le_add_right _ _, h4s, Nat.le_add_right _ _, Nat.le_add_right _ _, rfl⟩, fun _ _ => rfl, (Step.of_below hb).trans (q4.mono (fun l h => pairP_lab (i := i) (Or.inr (Or.inr h))))⟩
  show PExt (X.t + 200) (upd X.ag i _ k) (upd X.pd i _ k)
  by_cases ek : k = i
  · subst ek
    rw [upd_self, upd_self]
    exact (hPx.crashed q1 q2 sv').more (by omega)
  · rw [upd_other _ _ ek, upd_other _ _ ek]
    exact (hX k hk).more (by omega)
theorem comp_done {A : Nat → Addr} {L : Labs} {gw : Nat} {cur : Array Value} {X : WS} {i gp : Nat} {w w1 : World} (hX : AllX X) (h : WAt w L gw A cur X) (hv : X.ps[i]? = some (.pointer (some ⟨gp, 0, none⟩))) (hi : i < X.np) (hb : Below w.heap.size w w1) (h4 : X.nt % 4 = 0) (h4s : X.ns % 4 = 0) :
    Calls Tryz.prog 53 #[.pointer (some ⟨gp, 0, none⟩)] w1 fun e w' => e = .returned (.bool true) ∧ SteppedA w L gw A cur X w' := by
  have hPx := hX i hi
  have hw1 := h.below hb
  obtain ⟨gp', e, hP⟩ := hw1.pr i _ hv
  obtain rfl : gp = gp' := by simpa using e
  obtain ⟨hsim, hin⟩ : Sim (X.ag i) (X.rf i) ∧ Inv (X.ag i) X.t := by obtain ⟨_, _, _, _, _, r4, r5, _, _⟩ := hP; exact ⟨r4, r5⟩
  refine (compacted_core L i gp X.t (X.ag i) (X.rf i) (X.pd i) w1 hP).mono ?_
  rintro e w' ⟨rfl, L', sv', q3, q4⟩
  have s : Step (pairP i) L w1 L' w' := q4.mono (fun l h => by rcases h with h | h; exact Or.inl h; exact Or.inr (Or.inr h))
  have hW := hw1.pairTo hv q3 (by omega) s
  refine ⟨rfl, L', cur, _, hW, fun k hk => ?_, ⟨Nat.le_refl _, Nat.le_succ _, h4, Nat.le_add_right _ _, h4s, Nat.le_add_right _ _, Nat.le_add_right _ _, rfl⟩, fun _ _ => rfl, (Step.of_below hb).trans (s.mono (fun l h => pairP_lab h))⟩
  show PExt (X.t + 200) (upd X.ag i _ k) (upd X.pd i _ k)
  by_cases ek : k = i
  · subst ek
    rw [upd_self, upd_self]
    exact hPx.compacted hin hsim sv'
  · rw [upd_other _ _ ek, upd_other _ _ ek]
    exact (hX k hk).more (by omega)

theorem sizeOp : (Tryz.prog.info? 47).map (fun x => x.size) = some 11 := by kernel_rfl
end Go.Proofs.YtojpjaifhjigfaaGreatDoor

/- (*World).step, of the kinds 2 to 9. -/
namespace Go.Proofs.YtojpjaifhjigfaaGreatDoor
open Go.RowKit Go.Maps
set_option maxRecDepth 100000 in
set_option maxHeartbeats 8000000 in
theorem step_do_core (L : Labs) (gw : Nat) (A : Nat → Addr) (o : Opn) (cur : Array Value) (X : WS) (w : World) (hLn : ∀ k, w.heap.size ≤ k → L k = none) (h : WAt w L gw A cur X) (hX : AllX X) (hx : StepOkA cur X) (ho : o.Ok) (hk : 2 ≤ o.k ∧ o.k ≤ 9) : Calls Tryz.prog 18 #[.pointer (some ⟨gw, 0, none⟩), o.val] w fun e w' => e = .returned (.bool true) ∧ SteppedA w L gw A cur X w' := by
  have hgl := h.blk.1.lt
  obtain ⟨h26, h4, h4s, hn1, hnp, hn, hns, hm, htt⟩ := hx
  have Hclip := hide hLn
  have HX := hide hX
  obtain ⟨pa, pk, epv, _⟩ := h.prs.shape
  have hprs := h.prs
  rw [epv] at hprs
  obtain ⟨np, hnpe⟩ : ∃ np, X.np = np := ⟨_, rfl⟩
  rw [hnpe] at hn1 hnp
  rw [hnpe] at hprs
  have c26 : w.cell? ⟨gw, 26, none⟩ = some (.int .i64 9) := (h.blk.1.cell 26).trans h26
  obtain ⟨gr, rfl, hgr, _, hcell, _⟩ := hprs.head (show 0 < np by omega)
  have hpl : X.ps.length = np := by have := hprs.1.1; omega
  have hlt : pickN o.ag np < np := pickN_lt _ (by omega)
  have HPick := hide (fun w => pick_any o.ag np w ho.a0 ho.a1 (by omega))
  generalize hi : pickN o.ag np = i at *
  obtain ⟨v, hv⟩ : ∃ v, X.ps[i]? = some v := ⟨_, List.getElem?_eq_getElem (by omega)⟩
  obtain ⟨gp, rfl, hP⟩ := h.pr i v hv
  have hPx := hX i (by omega)
  have HPx := hide hPx
  have hci := hcell i _ hv
  have c22 : w.cell? ⟨gw, 22, none⟩ = some (.slice (some ⟨gr, 0, none⟩) np pk) := by rw [h.blk.1.cell 22, h.c22, epv, hnpe]
  obtain ⟨gx, gy, hpb, hA, hR, hSim, hInv, hStn, hMpn⟩ := hP
  have p0 : w.cell? ⟨gp, 0, none⟩ = some (.pointer (some ⟨gx, 0, none⟩)) := hpb.1.cell 0
  have p1 : w.cell? ⟨gp, 1, none⟩ = some (.pointer (some ⟨gy, 0, none⟩)) := hpb.1.cell 1
  have hgpl := hpb.1.lt
  have hrl : (X.rf i).rs.length ≤ 120 := hSim.r120 hInv
  have hsm : ∀ b ∈ (X.rf i).bs, 0 ≤ b.st ∧ b.st ≤ 3 ∧ 0 ≤ b.fl ∧ b.fl ≤ 10 := by rw [hSim.bs]; exact hInv.small
  have Hsm := hide hsm
  have HInv := hide hInv
  have hiI : (i : Int) < (np : Int) := by omega
  have H := hide h
  have Hv := hide hv
  have HPb := hide hpb
  have HA := hide hA
  have HR := hide hR
  have HSim := hide hSim
  have HTl := hide ho.tl
  obtain ⟨kk, hkk⟩ : ∃ kk, kk = o.k := ⟨_, rfl⟩
  have Hkk := hide hkk
  have hk1 : ¬ o.k = 1 := by omega
  have hk2 : decide (o.k < 1) = false := by simp; omega
  have hk3 : decide (9 < o.k) = false := by simp; omega
  have Hcut0 := hide (And.intro ho.m0 ho.m1)
  have Hnpe := hide hnpe
  clear h hcell hv hpb hA hR hSim hInv hsm ho hkk hLn hStn hMpn hPx hX hprs epv hnpe
  unfold Opn.val Opn.cells
  go_enter Tryz.func18, Tryz.ntmps18
  go_wp2_with fail
  go_quiet (fail)
  go_wp2_with fail
  generalize hV : World.drewN (World.alloc w _) _ = V
  have hBV : Below w.heap.size w V := by rw [← hV]; exact below_drewN ((Below.refl w.heap.size w).alloc (Nat.le_refl _) _) _
  have hNV : Blk V w.heap.size o.cells.toArray 47 := by rw [← hV]; exact (Blk.new w _ _).drewN _
  have f0 : V.cell? ⟨w.heap.size, 0, none⟩ = some (.int .i64 o.k) := hNV.cell 0
  have f1 : V.cell? ⟨w.heap.size, 1, none⟩ = some (.int .i64 o.ag) := hNV.cell 1
  have f2 : V.cell? ⟨w.heap.size, 2, none⟩ = some (.int .i64 o.b.dst) := hNV.cell 2
  have f3 : V.cell? ⟨w.heap.size, 3, none⟩ = some (encStr o.b.ten) := hNV.cell 3
  have f4 : V.cell? ⟨w.heap.size, 4, none⟩ = some (encStr o.b.id) := hNV.cell 4
  have f5 : V.cell? ⟨w.heap.size, 5, none⟩ = some (encStr o.b.body) := hNV.cell 5
  have c22' : V.cell? ⟨gw, 22, none⟩ = some (.slice (some ⟨gr, 0, none⟩) np pk) := (hBV.cell (p := ⟨gw, 22, none⟩) hgl).trans c22
  have c26' : V.cell? ⟨gw, 26, none⟩ = some (.int .i64 9) := (hBV.cell (p := ⟨gw, 26, none⟩) hgl).trans c26
  have hci' : V.cell? ⟨gr, i, none⟩ = _ := (hBV.cell (p := ⟨gr, i, none⟩) hgr).trans hci
  have p0' : V.cell? ⟨gp, 0, none⟩ = some (.pointer (some ⟨gx, 0, none⟩)) := (hBV.cell (p := ⟨gp, 0, none⟩) hgpl).trans p0
  have p1' : V.cell? ⟨gp, 1, none⟩ = some (.pointer (some ⟨gy, 0, none⟩)) := (hBV.cell (p := ⟨gp, 1, none⟩) hgpl).trans p1
  have HS0 : Hid (Step (fun _ => False) L w L V) := Step.of_below hBV
  have HW := hide (H.out.step HS0.out)
  have HBV := hide hBV
  have HNV := hide hNV
  clear hV c22 c26 hci p0 p1 hBV hNV
  go_quiet ((go_at_call 40; exact Calls.quiet_of_same (HPick.out _)))
  go_wp2_with fail
  refine (lasts_any L (2 * i + 2) gy (X.rf i) _ (HR.out.keep (HS0.out.trans (Step.drewN L V _)) (fun _ h => h)) hrl Hsm.out).mono ?_
  rintro e w1 ⟨rfl, hb1⟩
  have HBs : Hid ((X.rf i).bs = (X.ag i).bs) := HSim.out.bs
  rw [HBs.out]
  obtain ⟨z1, hz1⟩ : ∃ z1, lastsOf (X.ag i).bs = z1 := ⟨_, rfl⟩
  rw [hz1]
  have Hz1 := hide hz1
  clear hz1
  have hbV1 : Below V.heap.size V w1 := (below_drewN (Below.refl V.heap.size V) _).trans hb1
  have hB1 : Below w.heap.size w w1 := HBV.out.trans (hbV1.mono HBV.out.size)
  have hN1 := HNV.out.below hbV1 HNV.out.lt
  have k0 : w1.cell? ⟨w.heap.size, 0, none⟩ = some (.int .i64 o.k) := hN1.cell 0
  have k2 : w1.cell? ⟨w.heap.size, 2, none⟩ = some (.int .i64 o.b.dst) := hN1.cell 2
  have k3 : w1.cell? ⟨w.heap.size, 3, none⟩ = some (encStr o.b.ten) := hN1.cell 3
  have k4 : w1.cell? ⟨w.heap.size, 4, none⟩ = some (encStr o.b.id) := hN1.cell 4
  have k5 : w1.cell? ⟨w.heap.size, 5, none⟩ = some (encStr o.b.body) := hN1.cell 5
  have HW1 := hide (H.out.below hB1)
  have c26 : w1.cell? ⟨gw, 26, none⟩ = some (.int .i64 9) := (HW1.out.blk.1.cell 26).trans h26
  have hgl1 := HW1.out.blk.1.lt
  have HPb1 := hide (HPb.out.keep (Step.of_below (p := fun _ => False) hB1) (fun h => h))
  have p0 : w1.cell? ⟨gp, 0, none⟩ = some (.pointer (some ⟨gx, 0, none⟩)) := HPb1.out.1.cell 0
  have p1 : w1.cell? ⟨gp, 1, none⟩ = some (.pointer (some ⟨gy, 0, none⟩)) := HPb1.out.1.cell 1
  have HA1 := hide (HA.out.keep (Step.of_below (p := fun _ => False) hB1) (fun _ h => h))
  have HR1 := hide (HR.out.keep (Step.of_below (p := fun _ => False) hB1) (fun _ h => h))
  have HB1 := hide hB1
  have HN1 := hide hN1
  clear hb1 hbV1 hB1 hN1 f0 f1 f2 f3 f4 f5 c22' c26' hci' p0' p1' hk1 hk2 hk3 HPick
  have hk' : o.k = 2 ∨ o.k = 3 ∨ o.k = 4 ∨ o.k = 5 ∨ o.k = 6 ∨ o.k = 7 ∨ o.k = 8 ∨ o.k = 9 := by omega
  clear hk
  rcases hk' with hk | hk | hk | hk | hk | hk | hk | hk
  · have hn11 := refusal_le (X.ag i) o.b
    have HSub : Hid (∀ w2, Below w1.heap.size w1 w2 → Calls Tryz.prog 27 #[.pointer (some ⟨gx, 0, none⟩), batVal o.b] w2 fun e w' => e = .returned (errV A ((X.ag i).refusal o.b)) ∧ Turned w1 L (2 * i + 1) gx ((X.ag i).submitted o.b) w') := fun w2 hb2 => by
      refine (submit_inv A L (2 * i + 1) gx X.t (X.ag i) o.b w2 (HW1.out.err.hs.below hb2) (HA1.out.keep (Step.of_below (p := fun _ => False) hb2) (fun _ h => h)) HInv.out (by omega) HTl.out).mono ?_
      rintro e w' ⟨rfl, L', h1, h2⟩
      exact ⟨rfl, L', h1, (Step.of_below hb2).trans h2⟩
    generalize hev : errV A ((X.ag i).refusal o.b) = ev0 at *
    have Hev := hide hev
    unfold batVal at HSub
    rw [hk] at k0 ⊢
    clear hk hev
    go_upto_region 10 with fail
    go_cut [8] (fun s8 wx => s8 = ev0 ∧ Turned w1 L (2 * i + 1) gx ((X.ag i).submitted o.b) wx)
    case first =>
      go_region_with ((go_at_call 27; refine (HSub.out _ (by first | exact Below.refl _ _ | exact (Below.refl _ _).drew)).mono ?_; rintro e w2 ⟨rfl, hT2⟩))
      all_goals (go_wp2_with fail; go_meet; exact ⟨rfl, hT2⟩)
    case rest =>
    obtain ⟨rfl, L2, hA2, hS2⟩ := hcut
    generalize hwc : wc = w2 at *
    clear hwc
    have hno : ¬ ofP (2 * i + 1) (L w.heap.size) := by
      rw [Hclip.out _ (Nat.le_refl _)]
      rintro ⟨q, hq⟩
      cases hq
    have hN2 : Blk w2 w.heap.size o.cells.toArray 47 := by
      unfold Blk
      rw [hS2.block _ HN1.out.lt hno]
      exact HN1.out
    have k2' : w2.cell? ⟨w.heap.size, 2, none⟩ = some (.int .i64 o.b.dst) := hN2.cell 2
    have k3' : w2.cell? ⟨w.heap.size, 3, none⟩ = some (encStr o.b.ten) := hN2.cell 3
    have k4' : w2.cell? ⟨w.heap.size, 4, none⟩ = some (encStr o.b.id) := hN2.cell 4
    have k5' : w2.cell? ⟨w.heap.size, 5, none⟩ = some (encStr o.b.body) := hN2.cell 5
    have hnl2 := hN2.lt
    have hPb2 := HPb1.out.keep hS2 (not_ofP (by omega) _)
    have p1' : w2.cell? ⟨gp, 1, none⟩ = some (.pointer (some ⟨gy, 0, none⟩)) := hPb2.1.cell 1
    have hgp2 := hPb2.1.lt
    have hR2 := HR1.out.keep hS2 (fun q => not_ofP (by omega) q)
    have HRS : Hid (∀ w3, Below w2.heap.size w2 w3 → Calls Tryz.prog 48 #[.pointer (some ⟨gy, 0, none⟩), batVal o.b] w3 fun e w' => e = .returned (.int .i64 ((X.ag i).refusal o.b)) ∧ TurnedR w2 L2 (2 * i + 2) gy ((X.rf i).submitted o.b) w') := fun w3 hb3 => by
      refine (refSubmit_any L2 (2 * i + 2) gy (X.rf i) o.b w3 (hR2.keep (Step.of_below (p := fun _ => False) hb3) (fun _ h => h)) hrl (by rw [HSim.out.ns]; have := HInv.out.nl; omega) (by have := (Cfg.num_d HInv.out.good.1).1; rw [HSim.out.c]; omega)).mono ?_
      rintro e w' ⟨rfl, L', h1, h2⟩
      rw [sim_refusal HSim.out HInv.out]
      exact ⟨rfl, L', h1, (Step.of_below hb3).trans h2⟩
    have HA2 := hide hA2
    have HS2 := hide hS2
    clear hN2 hPb2 hR2 hA2 hS2 k2 k3 k4 k5 p0 p1
    generalize hrn : (X.ag i).refusal o.b = rn at *
    have Hrn := hide hrn
    unfold batVal at HRS
    clear hrn
    go_upto_region 11 with fail
    go_cut [9] (fun s9 wx => s9 = .int .i64 rn ∧ TurnedR w2 L2 (2 * i + 2) gy ((X.rf i).submitted o.b) wx)
    case first =>
      go_region_with ((go_at_call 48; refine (HRS.out _ (by first | exact Below.refl _ _ | exact (Below.refl _ _).drew)).mono ?_; rintro e w3 ⟨rfl, hT3⟩))
      all_goals (go_wp2_with fail; go_meet; exact ⟨rfl, hT3⟩)
    case rest =>
    obtain ⟨rfl, L3, hR3, hS3⟩ := hcut
    generalize hwc : wc = w3 at *
    clear hwc
    have hA3 := HA2.out.keep hS3 (fun q => not_ofP (by omega) q)
    have hst : Step (fun l => ofP (2 * i + 1) l ∨ ofP (2 * i + 2) l) L w1 L3 w3 := (HS2.out.mono (fun l h => Or.inl h)).trans (hS3.mono (fun l h => Or.inr h))
    have HW3 := hide (HW1.out.agents Hv.out HPb1.out hA3 hR3 (sim_submitted HSim.out HInv.out o.b) (HInv.out.submitted o.b) (Nat.le_succ _) hst)
    have HS3 : Hid (Step someP L w L3 w3) := (Step.of_below HB1.out).trans (hst.mono (fun l h => by rcases h with ⟨q, rfl⟩ | ⟨q, rfl⟩ <;> simp [someP]))
    have c26' : w3.cell? ⟨gw, 26, none⟩ = some (.int .i64 9) := (HW3.out.blk.1.cell 26).trans h26
    have hgl3 := HW3.out.blk.1.lt
    have HIs := hide (is_any A rn w3 HW3.out.err.hs hn11)
    rw [Hev.out] at HIs
    clear hA3 hR3 hS3 hst c26 k2' k3' k4' k5' p1'
    go_wp2_with fail
    refine HIs.out.mono ?_
    rintro e w4 ⟨rfl, hb4⟩
    have c26 : w4.cell? ⟨gw, 26, none⟩ = some (.int .i64 9) := (hb4.cell (p := ⟨gw, 26, none⟩) hgl3).trans c26'
    have HW4 := hide (HW3.out.below hb4)
    have HS4 := hide (HS3.out.trans (Step.of_below hb4))
    clear hb4
    have Hmid : Hid (Mid L gw A cur X i w w4) := ⟨L3, cur, _, HW4.out, rfl, rfl, fun j hj => upd_other _ _ hj, by dsimp only; rw [upd_self]; exact grew_submitted HInv.out o.b, by dsimp only; rw [upd_self]; exact HPx.out.li.submitted HInv.out o.b, by dsimp only; rw [upd_self]; exact HPx.out.id.submitted o.b, ⟨rfl, h4, Nat.le_add_right _ _, h4s, Nat.le_add_right _ _, Nat.le_add_right _ _, Nat.le_succ _, Nat.le_refl _⟩, fun _ _ => rfl, HS4.out⟩
    obtain ⟨gy9, h91, z9, h92, h93⟩ := mid_tail Hmid.out (by omega) Hv.out HPx.out HX.out (by rw [Hnpe.out]; exact hlt) Hz1.out
    have HLs := hide h92
    have HStd := hide h93
    have t26 : w4.cell? ⟨gw, 26, none⟩ = some (.int .i64 9) := Hmid.out.c26 h26
    have hgw9 := World.block_lt_of_cell? w4 _ t26
    have hgp9 := World.block_lt_of_cell? w4 _ h91
    clear c26 c26'
    go_wp2_with fail
    refine HLs.out.mono ?_
    rintro e w8 ⟨rfl, hb8⟩
    have HStd8 := hide (HStd.out w8 hb8)
    clear hb8
    go_wp2_with fail
    refine HStd8.out.mono ?_
    rintro e w9 ⟨rfl, hT9⟩
    have HT9 := hide hT9
    clear hT9
    go_wp2_with fail
    go_ret
    exact ⟨rfl, HT9.out⟩
  · have HTk := hide (ticks_core L gw gp A o cur _ i w1 (fun k hk => Hclip.out k (Nat.le_trans HB1.out.size hk)) HW1.out Hv.out h4s (by omega) (by omega))
    rw [hk] at k0 ⊢
    clear hk
    go_wp2_with (first
      | (refine wpList_load_mid rfl 47 _ rfl w.heap.size 0 rfl o.cells _ (HN1.out.range 0 _ rfl) Tryz.underlying47 rfl sizeOp ?_)
      | fail)
    refine HTk.out.mono ?_
    rintro e w2 ⟨rfl, L2, sv2, hW2, hS2⟩
    have HW2 := hide hW2
    have c26' : w2.cell? ⟨gw, 26, none⟩ = some (.int .i64 9) := by
      rw [hW2.blk.1.cell 26, Array.getElem?_setIfInBounds_ne (by omega)]
      exact h26
    have HS2 : Hid (Step someP L w L2 w2) := (Step.of_below HB1.out).trans hS2
    clear hW2 hS2
    have Hmid : Hid (Mid L gw A cur X i w w2) := ⟨L2, _, _, HW2.out, rfl, rfl, fun j hj => upd_other _ _ hj, by dsimp only; rw [upd_self]; exact grew_tickTo HInv.out (by omega), by dsimp only; rw [upd_self]; exact linv_tickTo HPx.out.li HInv.out (by omega), by dsimp only; rw [upd_self]; exact ids_tickTo HPx.out.id HInv.out (by omega), ⟨rfl, h4, Nat.le_add_right _ _, by show (X.ns + 4) % 4 = 0; omega, Nat.le_refl _, Nat.le_add_right _ _, Nat.le_succ _, Nat.le_refl _⟩, fun q hq => by rw [Array.getElem?_setIfInBounds_ne (by omega)], HS2.out⟩
    obtain ⟨gy9, h91, z9, h92, h93⟩ := mid_tail Hmid.out (by omega) Hv.out HPx.out HX.out (by rw [Hnpe.out]; exact hlt) Hz1.out
    have HLs := hide h92
    have HStd := hide h93
    have t26 : w2.cell? ⟨gw, 26, none⟩ = some (.int .i64 9) := Hmid.out.c26 h26
    have hgw9 := World.block_lt_of_cell? w2 _ t26
    have hgp9 := World.block_lt_of_cell? w2 _ h91
    clear c26 c26' p0 p1
    go_wp2_with fail
    refine HLs.out.mono ?_
    rintro e w8 ⟨rfl, hb8⟩
    have HStd8 := hide (HStd.out w8 hb8)
    clear hb8
    go_wp2_with fail
    refine HStd8.out.mono ?_
    rintro e w9 ⟨rfl, hT9⟩
    have HT9 := hide hT9
    clear hT9
    go_wp2_with fail
    go_ret
    exact ⟨rfl, HT9.out⟩
  · have HTk := hide (pReply_core L gw gp A o cur _ i w1 (fun k hk => Hclip.out k (Nat.le_trans HB1.out.size hk)) HW1.out Hv.out (by omega))
    rw [hk] at k0 ⊢
    clear hk
    go_wp2_with (first
      | (refine wpList_load_mid rfl 47 _ rfl w.heap.size 0 rfl o.cells _ (HN1.out.range 0 _ rfl) Tryz.underlying47 rfl sizeOp ?_)
      | fail)
    refine HTk.out.mono ?_
    rintro e w2 ⟨rfl, L2, hW2, hS2⟩
    have HW2 := hide hW2
    have c26' : w2.cell? ⟨gw, 26, none⟩ = some (.int .i64 9) := (hW2.blk.1.cell 26).trans h26
    have HS2 : Hid (Step someP L w L2 w2) := (Step.of_below HB1.out).trans hS2
    clear hW2 hS2
    have Hmid : Hid (Mid L gw A cur X i w w2) := ⟨L2, _, _, HW2.out, rfl, rfl, fun j hj => upd_other _ _ hj, by dsimp only; rw [upd_self]; exact grew_answered HSim.out HInv.out (by omega), by dsimp only; rw [upd_self]; exact linv_answered HPx.out.li HSim.out HInv.out (by omega), by dsimp only; rw [upd_self]; exact ids_answered HPx.out.id HSim.out HInv.out (by omega), ⟨rfl, h4, Nat.le_add_right _ _, h4s, Nat.le_add_right _ _, Nat.le_add_right _ _, Nat.le_succ _, Nat.le_refl _⟩, fun _ _ => rfl, HS2.out⟩
    obtain ⟨gy9, h91, z9, h92, h93⟩ := mid_tail Hmid.out (by omega) Hv.out HPx.out HX.out (by rw [Hnpe.out]; exact hlt) Hz1.out
    have HLs := hide h92
    have HStd := hide h93
    have t26 : w2.cell? ⟨gw, 26, none⟩ = some (.int .i64 9) := Hmid.out.c26 h26
    have hgw9 := World.block_lt_of_cell? w2 _ t26
    have hgp9 := World.block_lt_of_cell? w2 _ h91
    clear c26 c26' p0 p1
    go_wp2_with fail
    refine HLs.out.mono ?_
    rintro e w8 ⟨rfl, hb8⟩
    have HStd8 := hide (HStd.out w8 hb8)
    clear hb8
    go_wp2_with fail
    refine HStd8.out.mono ?_
    rintro e w9 ⟨rfl, hT9⟩
    have HT9 := hide hT9
    clear hT9
    go_wp2_with fail
    go_ret
    exact ⟨rfl, HT9.out⟩
  · have HSt := hide (pStatus_any A L gp gx gy (2 * i + 1) (2 * i + 2) (X.ag i) (X.rf i) o.b.id w1 HW1.out.err.hs p0 p1 HA1.out HR1.out HInv.out.b120 HSim.out.bs)
    rw [hk] at k0 ⊢
    clear hk
    go_wp2_with fail
    refine HSt.out.mono ?_
    rintro e w2 ⟨rfl, hb2⟩
    have c26' : w2.cell? ⟨gw, 26, none⟩ = some (.int .i64 9) := (hb2.cell (p := ⟨gw, 26, none⟩) hgl1).trans c26
    have HB2 : Hid (Below w.heap.size w w2) := HB1.out.trans (hb2.mono HB1.out.size)
    clear hb2
    have Hmid : Hid (Mid L gw A cur X i w w2) := ⟨L, cur, X, H.out.below HB2.out, rfl, rfl, fun _ _ => rfl, Grew.refl _, HPx.out.li, HPx.out.id, ⟨rfl, h4, Nat.le_add_right _ _, h4s, Nat.le_add_right _ _, Nat.le_add_right _ _, Nat.le_refl _, Nat.le_succ _⟩, fun _ _ => rfl, Step.of_below HB2.out⟩
    obtain ⟨gy9, h91, z9, h92, h93⟩ := mid_tail Hmid.out (by omega) Hv.out HPx.out HX.out (by rw [Hnpe.out]; exact hlt) Hz1.out
    have HLs := hide h92
    have HStd := hide h93
    have t26 : w2.cell? ⟨gw, 26, none⟩ = some (.int .i64 9) := Hmid.out.c26 h26
    have hgw9 := World.block_lt_of_cell? w2 _ t26
    have hgp9 := World.block_lt_of_cell? w2 _ h91
    clear c26 c26' p0 p1
    go_wp2_with fail
    refine HLs.out.mono ?_
    rintro e w8 ⟨rfl, hb8⟩
    have HStd8 := hide (HStd.out w8 hb8)
    clear hb8
    go_wp2_with fail
    refine HStd8.out.mono ?_
    rintro e w9 ⟨rfl, hT9⟩
    have HT9 := hide hT9
    clear hT9
    go_wp2_with fail
    go_ret
    exact ⟨rfl, HT9.out⟩
  · have HD := hide (wDead_any L gw gp gx gy (2 * i + 1) (2 * i + 2) X.nt X.tv cur (X.ag i) (X.rf i) w1 HW1.out.blk HW1.out.c23 HW1.out.txt h4 (by omega) p0 p1 HA1.out HR1.out HInv.out.dead_lt HSim.out.dead HSim.out.bs HInv.out.b120 HInv.out.dead_le)
    rw [hk] at k0 ⊢
    clear hk
    go_wp2_with fail
    refine HD.out.mono ?_
    rintro e w2 ⟨rfl, L2, tv2, hK2, hT2, hS2⟩
    have HW2 := hide (HW1.out.text hK2 hT2 hS2)
    have c26' : w2.cell? ⟨gw, 26, none⟩ = some (.int .i64 9) := by
      rw [hK2.1.cell 26, Array.getElem?_setIfInBounds_ne (by omega)]
      exact h26
    have HS2 : Hid (Step someP L w L2 w2) := (Step.of_below HB1.out).trans (hS2.mono (fun l h => by rcases h with ⟨j, _, rfl⟩ | rfl | rfl <;> simp [someP, bl]))
    clear hK2 hT2 hS2
    have Hmid : Hid (Mid L gw A cur X i w w2) := ⟨L2, _, _, HW2.out, rfl, rfl, fun _ _ => rfl, Grew.refl _, HPx.out.li, HPx.out.id, ⟨rfl, by show (X.nt + 4 + 4) % 4 = 0; omega, by show X.nt + 4 + 4 ≤ X.nt + 8; omega, h4s, Nat.le_add_right _ _, Nat.le_add_right _ _, Nat.le_refl _, Nat.le_succ _⟩, fun q hq => by rw [Array.getElem?_setIfInBounds_ne (by omega)], HS2.out⟩
    obtain ⟨gy9, h91, z9, h92, h93⟩ := mid_tail Hmid.out (by omega) Hv.out HPx.out HX.out (by rw [Hnpe.out]; exact hlt) Hz1.out
    have HLs := hide h92
    have HStd := hide h93
    have t26 : w2.cell? ⟨gw, 26, none⟩ = some (.int .i64 9) := Hmid.out.c26 h26
    have hgw9 := World.block_lt_of_cell? w2 _ t26
    have hgp9 := World.block_lt_of_cell? w2 _ h91
    clear c26 c26' p0 p1
    go_wp2_with fail
    refine HLs.out.mono ?_
    rintro e w8 ⟨rfl, hb8⟩
    have HStd8 := hide (HStd.out w8 hb8)
    clear hb8
    go_wp2_with fail
    refine HStd8.out.mono ?_
    rintro e w9 ⟨rfl, hT9⟩
    have HT9 := hide hT9
    clear hT9
    go_wp2_with fail
    go_ret
    exact ⟨rfl, HT9.out⟩
  · have HD := hide (wWaiting_any L gw gp gx gy (2 * i + 1) (2 * i + 2) X.nm X.mv cur (X.ag i) (X.rf i) w1 HW1.out.blk HW1.out.c25 HW1.out.mps (by omega) p0 p1 HA1.out HR1.out HInv.out.b120 hrl (by rw [HSim.out.ns]; have := HInv.out.nl; omega) (HSim.out.waits HInv.out) (by rw [HSim.out.ns]; exact HInv.out.nd) (HSim.out.inNs HInv.out) (fun x hx => by rw [HSim.out.ns] at hx; have := (HInv.out.sl x hx).2; unfold maxLen; omega))
    rw [hk] at k0 ⊢
    clear hk
    go_wp2_with fail
    refine HD.out.mono ?_
    rintro e w2 ⟨rfl, L2, mv2, hK2, hT2, hS2⟩
    have HW2 := hide (HW1.out.map hK2 hT2 hS2)
    have c26' : w2.cell? ⟨gw, 26, none⟩ = some (.int .i64 9) := by
      rw [hK2.1.cell 26, Array.getElem?_setIfInBounds_ne (by omega)]
      exact h26
    have HS2 : Hid (Step someP L w L2 w2) := (Step.of_below HB1.out).trans (hS2.mono (fun l h => by rcases h with ⟨j, _, rfl⟩ | rfl | rfl <;> simp [someP, bl]))
    clear hK2 hT2 hS2
    have Hmid : Hid (Mid L gw A cur X i w w2) := ⟨L2, _, _, HW2.out, rfl, rfl, fun _ _ => rfl, Grew.refl _, HPx.out.li, HPx.out.id, ⟨rfl, h4, Nat.le_add_right _ _, h4s, Nat.le_add_right _ _, by show X.nm + 1 + 1 ≤ X.nm + 2; omega, Nat.le_refl _, Nat.le_succ _⟩, fun q hq => by rw [Array.getElem?_setIfInBounds_ne (by omega)], HS2.out⟩
    obtain ⟨gy9, h91, z9, h92, h93⟩ := mid_tail Hmid.out (by omega) Hv.out HPx.out HX.out (by rw [Hnpe.out]; exact hlt) Hz1.out
    have HLs := hide h92
    have HStd := hide h93
    have t26 : w2.cell? ⟨gw, 26, none⟩ = some (.int .i64 9) := Hmid.out.c26 h26
    have hgw9 := World.block_lt_of_cell? w2 _ t26
    have hgp9 := World.block_lt_of_cell? w2 _ h91
    clear c26 c26' p0 p1
    go_wp2_with fail
    refine HLs.out.mono ?_
    rintro e w8 ⟨rfl, hb8⟩
    have HStd8 := hide (HStd.out w8 hb8)
    clear hb8
    go_wp2_with fail
    refine HStd8.out.mono ?_
    rintro e w9 ⟨rfl, hT9⟩
    have HT9 := hide hT9
    clear hT9
    go_wp2_with fail
    go_ret
    exact ⟨rfl, HT9.out⟩
  · have hcr := crash_done HX.out H.out Hv.out (by rw [Hnpe.out]; exact hlt) HB1.out h4 h4s Hcut0.out.1 Hcut0.out.2 htt
    have HCr := hide hcr
    have k7 : w1.cell? ⟨w.heap.size, 7, none⟩ = some (.int .i64 o.ms) := HN1.out.cell 7
    rw [hk] at k0 ⊢
    clear hk hcr
    go_wp2_with fail
    refine HCr.out.mono ?_
    rintro e w2 ⟨rfl, hT2⟩
    have HT2 := hide hT2
    clear hT2
    go_wp2_with fail
    go_ret
    exact ⟨rfl, HT2.out⟩
  · have hcr := comp_done HX.out H.out Hv.out (by rw [Hnpe.out]; exact hlt) HB1.out h4 h4s
    have HCr := hide hcr
    rw [hk] at k0 ⊢
    clear hk hcr
    go_wp2_with fail
    refine HCr.out.mono ?_
    rintro e w2 ⟨rfl, hT2⟩
    have HT2 := hide hT2
    clear hT2
    go_wp2_with fail
    go_ret
    exact ⟨rfl, HT2.out⟩
end Go.Proofs.YtojpjaifhjigfaaGreatDoor

/- (*World).step, of any kind. -/
namespace Go.Proofs.YtojpjaifhjigfaaGreatDoor
open Go.RowKit Go.Maps

theorem SteppedA.same {L : Labs} {gw : Nat} {A : Nat → Addr} {cur : Array Value} {X : WS} {w w' : World} (h : WAt w L gw A cur X) (hX : AllX X) (h4 : X.nt % 4 = 0) (h4s : X.ns % 4 = 0) (hb : Below w.heap.size w w') : SteppedA w L gw A cur X w' :=
  ⟨L, cur, _, (h.below hb).later (X.t + 200) (by omega), fun j hj => (hX j hj).more (by show X.t ≤ X.t + 200; omega), ⟨Nat.le_refl _, Nat.le_succ _, h4, Nat.le_add_right _ _, h4s, Nat.le_add_right _ _, Nat.le_add_right _ _, rfl⟩, fun _ _ => rfl, Step.of_below hb⟩

/-- The step has opened a pair. -/
def OpenedA (w : World) (L : Labs) (gw : Nat) (A : Nat → Addr) (cur : Array Value) (X : WS) (w' : World) : Prop :=
  ∃ L' cur' X', WAt w' L' gw A cur' X' ∧ AllX X' ∧ X'.np = X.np + 1 ∧ X'.nt = X.nt ∧ X'.ns = X.ns ∧ X'.nm = X.nm ∧ X'.t = X.t + 200 ∧ (∀ i, i < 22 ∨ i = 26 → cur'[i]? = cur[i]?) ∧ Step labP L w L' w'

set_option maxRecDepth 100000 in
set_option maxHeartbeats 4000000 in
theorem step_open (L : Labs) (gw : Nat) (A : Nat → Addr) (o : Opn) (cur : Array Value) (X : WS) (c0 c1 : Cfg) (m0 m1 : Option Nat) (D0 D1 : DataW Unit) (w : World) (h : WAt w L gw A cur X) (hX : AllX X) (hc0 : CfgAt w L cur 0 c0 m0 D0) (hc1 : CfgAt w L cur 1 c1 m1 D1)
    (ho : o.Ok) (hk : o.k = 1) (h4 : X.nt % 4 = 0) (h4s : X.ns % 4 = 0) (hnp : X.np ≤ 8000000) : Calls Tryz.prog 18 #[.pointer (some ⟨gw, 0, none⟩), o.val] w fun e w' => e = .returned (.bool true) ∧ SteppedA w L gw A cur X w' ∧ (GoodC c0 D0 → pickN o.ms 2 = 0 → OpenedA w L gw A cur X w') := by
  have HO : Hid (∀ o1, Calls Tryz.prog 16 #[.pointer (some ⟨gw, 0, none⟩), .int .i64 o.ms] (w.alloc o1) fun e w' => e = .returned (.bool true) ∧ SteppedA w L gw A cur X w' ∧ (GoodC c0 D0 → pickN o.ms 2 = 0 → OpenedA w L gw A cur X w')) := fun o1 => by
    have key : ∀ n c m D, n < 2 → PickIs o.ms n → CfgAt (w.alloc o1) L cur n c m D → (GoodC c0 D0 → pickN o.ms 2 = 0 → GoodC c D) → Calls Tryz.prog 16 #[.pointer (some ⟨gw, 0, none⟩), .int .i64 o.ms] (w.alloc o1) fun e w' => e = .returned (.bool true) ∧ SteppedA w L gw A cur X w' ∧ (GoodC c0 D0 → pickN o.ms 2 = 0 → OpenedA w L gw A cur X w') := fun n c m D hn hpk hc hgd => by
      refine (opened_any L gw A o.ms n hn hpk cur X c m D (w.alloc o1) (h.step (Step.alloc L w o1)) hc hnp).mono ?_
      rintro e w' ⟨rfl, L', cur', X', h1, h2, h5, h6⟩
      have hst : Step labP L w L' w' := (Step.alloc L w o1).trans (h6.mono (fun l h => by rcases h with rfl | rfl <;> simp [labP, bl]))
      have hcu : ∀ i, i < 22 ∨ i = 26 → cur'[i]? = cur[i]? := fun i hi => h5 i (by omega)
      rcases h2 with ⟨rfl, hng⟩ | ⟨_, pv', ps', ns, ss, sv', rfl, rfl, hso, hin⟩
      · exact ⟨rfl, ⟨L', cur', _, h1.later (X'.t + 200) (by omega), fun j hj => (hX j hj).more (by show X'.t ≤ X'.t + 200; omega), ⟨Nat.le_refl _, Nat.le_succ _, h4, Nat.le_add_right _ _, h4s, Nat.le_add_right _ _, Nat.le_add_right _ _, rfl⟩, hcu, hst⟩, fun g1 g2 => absurd (hgd g1 g2) hng⟩
      · have hall : ∀ j, j < X.np + 1 → PExt (X.t + 200) (upd X.ag X.np (Ag.new c D ss) j) (upd X.pd X.np ⟨c, m, D, sv', .string ⟨#[]⟩, [⟨0, [], []⟩]⟩ j) := fun j hj => by
          by_cases ej : j = X.np
          · subst ej
            rw [upd_self, upd_self]
            exact (PExt.new hin hso).more (by omega)
          · rw [upd_other _ _ ej, upd_other _ _ ej]
            exact (hX j (by omega)).more (by omega)
        exact ⟨rfl, ⟨L', cur', _, h1.later (X.t + 200) (by show X.t ≤ X.t + 200; omega), hall, ⟨Nat.le_succ _, Nat.le_refl _, h4, Nat.le_add_right _ _, h4s, Nat.le_add_right _ _, Nat.le_add_right _ _, rfl⟩, hcu, hst⟩, fun _ _ => ⟨L', cur', _, h1.later (X.t + 200) (by show X.t ≤ X.t + 200; omega), hall, rfl, rfl, rfl, rfl, rfl, hcu, hst⟩⟩
    have hs := Step.alloc (p := fun _ => False) L w o1
    have hlt := pickN_lt o.ms (n := 2) (by omega)
    have hpk := pickIs o.ms ho.m0 ho.m1
    generalize pickN o.ms 2 = n at *
    match n, hlt with
    | 0, _ => exact key 0 c0 m0 D0 (by omega) hpk (hc0.keep hs (fun h => h) (fun _ _ => rfl) (by omega)) (fun h _ => h)
    | 1, _ => exact key 1 c1 m1 D1 (by omega) hpk (hc1.keep hs (fun h => h) (fun _ _ => rfl) (by omega)) (fun _ h => by cases h)
  unfold Opn.val Opn.cells
  rw [hk]
  clear h hX hc0 hc1 ho hk
  go_enter Tryz.func18, Tryz.ntmps18
  go_wp2_with fail
  refine (HO.out _).mono ?_
  rintro e w' ⟨rfl, hT⟩
  have HT := hide hT
  clear hT
  go_wp2_with fail
  go_ret
  exact ⟨rfl, HT.out⟩

set_option maxRecDepth 100000 in
set_option maxHeartbeats 4000000 in
theorem step_skip (L : Labs) (gw : Nat) (A : Nat → Addr) (o : Opn) (cur : Array Value) (X : WS) (w : World) (h : WAt w L gw A cur X) (hX : AllX X) (hk : o.k < 1 ∨ 9 < o.k) (hx : StepOkA cur X) : Calls Tryz.prog 18 #[.pointer (some ⟨gw, 0, none⟩), o.val] w fun e w' => e = .returned (.bool true) ∧ SteppedA w L gw A cur X w' := by
  have c26 : w.cell? ⟨gw, 26, none⟩ = some (.int .i64 9) := (h.blk.1.cell 26).trans hx.m9
  have hgl := h.blk.1.lt
  have HU := hide (fun o1 n => SteppedA.same h hX hx.t4 hx.s4 (below_drewN ((Below.refl w.heap.size w).alloc (Nat.le_refl _) o1) n))
  unfold Opn.val Opn.cells
  clear h hX hx
  generalize o.k = k at *
  have hne : ¬ k = 1 := by omega
  rcases hk with hk | hk
  · go_enter Tryz.func18, Tryz.ntmps18
    go_wp2_with fail
    go_quiet (fail)
    go_wp2_with fail
    go_ret
    exact ⟨rfl, HU.out _ _⟩
  · have hd : decide (k < 1) = false := by simp; omega
    go_enter Tryz.func18, Tryz.ntmps18
    go_wp2_with fail
    go_quiet (fail)
    go_wp2_with fail
    go_ret
    exact ⟨rfl, HU.out _ _⟩

theorem step_do (L : Labs) (gw : Nat) (A : Nat → Addr) (o : Opn) (cur : Array Value) (X : WS) (w : World) (h : WAt w L gw A cur X) (hX : AllX X) (hx : StepOkA cur X) (ho : o.Ok) (hk : 2 ≤ o.k ∧ o.k ≤ 9) : Calls Tryz.prog 18 #[.pointer (some ⟨gw, 0, none⟩), o.val] w fun e w' => e = .returned (.bool true) ∧ SteppedA w L gw A cur X w' := by
  refine (step_do_core (clip L w.heap.size) gw A o cur X w (fun k hk => clip_none L hk) (h.step (Step.clipped L w)) hX hx ho hk).mono ?_
  rintro e w' ⟨rfl, L', cur', X', q1, q2, q3, q4, q5⟩
  exact ⟨rfl, L', cur', X', q1, q2, q3, q4, (Step.clipped L w).trans q5⟩
/-- A step of any kind. -/
theorem step_any (L : Labs) (gw : Nat) (A : Nat → Addr) (o : Opn) (cur : Array Value) (X : WS) (c0 c1 : Cfg) (m0 m1 : Option Nat) (D0 D1 : DataW Unit) (w : World) (h : WAt w L gw A cur X) (hX : AllX X) (hc0 : CfgAt w L cur 0 c0 m0 D0) (hc1 : CfgAt w L cur 1 c1 m1 D1) (hx : StepOkA cur X) (ho : o.Ok) :
    Calls Tryz.prog 18 #[.pointer (some ⟨gw, 0, none⟩), o.val] w fun e w' => e = .returned (.bool true) ∧ SteppedA w L gw A cur X w' := by
  by_cases h1 : o.k = 1
  · exact (step_open L gw A o cur X c0 c1 m0 m1 D0 D1 w h hX hc0 hc1 ho h1 hx.t4 hx.s4 hx.np).mono (fun e w' h => ⟨h.1, h.2.1⟩)
  by_cases h2 : o.k < 1 ∨ 9 < o.k
  · exact step_skip L gw A o cur X w h hX h2 hx
  · exact step_do L gw A o cur X w h hX hx ho (by omega)
end Go.Proofs.YtojpjaifhjigfaaGreatDoor
