/- Steps of the proof (several texts in one): AllWorld, AllAsked, AllBad. -/
import Derived.Test.YtojpjaifhjigfaaGreatDoorMAllupto23
import Derived.Test.YtojpjaifhjigfaaGreatDoorMAllupto30
import Derived.Test.YtojpjaifhjigfaaGreatDoorMAllupto02

/- The law's world: its pairs, its book. -/
namespace Go.Proofs.YtojpjaifhjigfaaGreatDoor
open Go.RowKit Go.Maps

/-- What else stands in a pair's cells; the stands of its log. -/
structure PD where
  c : Cfg
  m : Option Nat
  D : DataW Unit
  sv : Value
  lg : Value
  sts : List StD
/-- At one place another. -/
def upd {α : Type} (f : Nat → α) (i : Nat) (x : α) : Nat → α := fun j => if j = i then x else f j
theorem upd_self {α : Type} (f : Nat → α) (i : Nat) (x : α) : upd f i x i = x := by simp [upd]
theorem upd_other {α : Type} (f : Nat → α) {i j : Nat} (x : α) (h : j ≠ i) : upd f i x j = f j := by simp [upd, h]
/-- The stands of a pair in memory. -/
def StandsAt (w : World) (L : Labs) (i : Nat) (sv : Value) (sts : List StD) : Prop :=
  ∃ fs : List (Value × Value), fs.length = sts.length ∧ RowAt w L (bl 9 i) 105 3 sv sts.length ((sts.zip fs).flatMap fun p => [.int .i64 (p.1.n : Int), p.2.1, p.2.2]) ∧
    ∀ (j : Nat) (s : StD) (f : Value × Value), sts[j]? = some s → fs[j]? = some f → (∃ ba bk, f.1 = .slice ba s.rs.length bk ∧ RowAt w L (bl 10 i) 112 8 f.1 s.rs.length (s.rs.flatMap RBat.cells)) ∧ ∃ da dk, f.2 = .slice da s.dead.length dk ∧ RowAt w L (bl 11 i) 3 1 f.2 s.dead.length (ints s.dead) ∧ (s.dead.length = 0 → da = none ∧ dk = 0)
theorem StandsAt.keep {w w' : World} {L L' : Labs} {i : Nat} {sv : Value} {sts : List StD} (h : StandsAt w L i sv sts) {p : Lab → Prop} (s : Step p L w L' w') (hp : ∀ k n, 8 ≤ k → ¬ p (bl k n)) : StandsAt w' L' i sv sts := by
  obtain ⟨fs, q1, q2, q3⟩ := h
  refine ⟨fs, q1, q2.keep s (hp 9 i (by omega)), fun j x f hx hf => ?_⟩
  obtain ⟨⟨ba, bk, r1, r2⟩, da, dk, r3, r4, r5⟩ := q3 j x f hx hf
  exact ⟨⟨ba, bk, r1, r2.keep s (hp 10 i (by omega))⟩, da, dk, r3, r4.keep s (hp 11 i (by omega)), r5⟩
/-- A map that nobody turns. -/
def MapN (w : World) (L : Labs) (m : Option Nat) (D : DataW Unit) : Prop := MapAt w m D ∧ ∀ b, m = some b → L b = none
theorem MapN.keep {w w' : World} {L L' : Labs} {m : Option Nat} {D : DataW Unit} (h : MapN w L m D) {p : Lab → Prop} (s : Step p L w L' w') (hp : ¬ p none) : MapN w' L' m D := by
  obtain ⟨h1, h2⟩ := h
  rcases h1 with q | ⟨b, n', e1, e2, e3⟩
  · exact ⟨Or.inl q, fun b hb => by rw [q.1] at hb; cases hb⟩
  · refine ⟨Or.inr ⟨b, n', e1, ownsMap_of_block e2 (s.block b e2.lt (by rw [h2 b e1]; exact hp)), e3⟩, fun b' hb => ?_⟩
    rw [e1] at hb
    cases hb
    rw [s.lab _ e2.lt]
    exact h2 _ e1
/-- A pair in memory. -/
def PairAt (w : World) (L : Labs) (i gp t : Nat) (M : Ag) (R : Rf) (P : PD) : Prop := ∃ gx gy, BlkAt w L (bl 8 i) gp (prCells gx gy P.c P.m P.sv P.lg) 102 ∧ AgentAt w L (2 * i + 1) gx M ∧ RefAt w L (2 * i + 2) gy R ∧ Sim M R ∧ Inv M t ∧ StandsAt w L i P.sv P.sts ∧ MapN w L P.m P.D
theorem PairAt.keep {w w' : World} {L L' : Labs} {i gp t t' : Nat} {M : Ag} {R : Rf} {P : PD} (h : PairAt w L i gp t M R P) {p : Lab → Prop} (s : Step p L w L' w') (hn : ¬ p none) (h8 : ∀ k n, 8 ≤ k → ¬ p (bl k n)) (h1 : ∀ q, ¬ p (some (2 * i + 1, q))) (h2 : ∀ q, ¬ p (some (2 * i + 2, q))) (ht : t ≤ t') : PairAt w' L' i gp t' M R P := by
  obtain ⟨gx, gy, q1, q2, q3, q4, q5, q6, q7⟩ := h
  exact ⟨gx, gy, q1.keep s (h8 8 i (Nat.le_refl _)), q2.keep s h1, q3.keep s h2, q4, q5.more ht, q6.keep s h8, q7.keep s hn⟩

/-- What stands in the world's cells. -/
structure WS where
  pv : Value
  tv : Value
  sv : Value
  mv : Value
  np : Nat
  nt : Nat
  ns : Nat
  nm : Nat
  t : Nat
  ps : List Value
  ag : Nat → Ag
  rf : Nat → Rf
  pd : Nat → PD

/-- The world. -/
structure WAt (w : World) (L : Labs) (gw : Nat) (A : Nat → Addr) (cur : Array Value) (X : WS) : Prop where
  blk : BlkAt w L (bl 2 0) gw cur 38
  c22 : cur[22]? = some X.pv
  c23 : cur[23]? = some X.tv
  c24 : cur[24]? = some X.sv
  c25 : cur[25]? = some X.mv
  prs : RowAt w L (bl 7 0) 97 1 X.pv X.np X.ps
  pr : ∀ (i : Nat) (v : Value), X.ps[i]? = some v → ∃ gp, v = .pointer (some ⟨gp, 0, none⟩) ∧ PairAt w L i gp X.t (X.ag i) (X.rf i) (X.pd i)
  txt : TextsAt w L X.tv X.nt
  snd : SendsAt w L X.sv X.ns
  mps : MapsAt w L X.mv X.nm
  err : ErrsAt w L A

theorem WAt.text {w w' : World} {L L' : Labs} {gw : Nat} {A : Nat → Addr} {cur : Array Value} {X : WS} {tv' : Value} {nt' k : Nat} (h : WAt w L gw A cur X) (hb : BlkAt w' L' (bl 2 0) gw (cur.setIfInBounds 23 tv') 38) (ht : TextsAt w' L' tv' nt') (s : Step (wdP k) L w L' w') :
    WAt w' L' gw A (cur.setIfInBounds 23 tv') { X with tv := tv', nt := nt' } := by
  have hl := (Array.getElem?_eq_some_iff.1 h.c23).1
  refine ⟨hb, by rw [Array.getElem?_setIfInBounds_ne (by omega)]; exact h.c22, by simp [hl], by rw [Array.getElem?_setIfInBounds_ne (by omega)]; exact h.c24, by rw [Array.getElem?_setIfInBounds_ne (by omega)]; exact h.c25,
    h.prs.keep s (by simp [wdP, bl]), fun i v hv => ?_, ht, h.snd.keep s (by simp [wdP, bl]) (fun i _ => by simp [wdP, bl]), h.mps.keep s (by simp [wdP, bl]) (fun i _ => by simp [wdP, bl]), h.err.keep s (by simp [wdP])⟩
  obtain ⟨gp, h1, h2⟩ := h.pr i v hv
  exact ⟨gp, h1, h2.keep s (by simp [wdP]) (fun k n hk h => by simp [wdP, bl] at h; omega) (fun q => by simp [wdP, bl]) (fun q => by simp [wdP, bl]) (Nat.le_refl _)⟩
theorem WAt.send {w w' : World} {L L' : Labs} {gw : Nat} {A : Nat → Addr} {cur : Array Value} {X : WS} {sv' : Value} {ns' k : Nat} (h : WAt w L gw A cur X) (hb : BlkAt w' L' (bl 2 0) gw (cur.setIfInBounds 24 sv') 38) (ht : SendsAt w' L' sv' ns') (s : Step (ksP k) L w L' w') :
    WAt w' L' gw A (cur.setIfInBounds 24 sv') { X with sv := sv', ns := ns' } := by
  have hl := (Array.getElem?_eq_some_iff.1 h.c24).1
  refine ⟨hb, by rw [Array.getElem?_setIfInBounds_ne (by omega)]; exact h.c22, by rw [Array.getElem?_setIfInBounds_ne (by omega)]; exact h.c23, by simp [hl], by rw [Array.getElem?_setIfInBounds_ne (by omega)]; exact h.c25,
    h.prs.keep s (by simp [ksP, bl]), fun i v hv => ?_, h.txt.keep s (by simp [ksP, bl]) (fun i _ => by simp [ksP, bl]), ht, h.mps.keep s (by simp [ksP, bl]) (fun i _ => by simp [ksP, bl]), h.err.keep s (by simp [ksP])⟩
  obtain ⟨gp, h1, h2⟩ := h.pr i v hv
  exact ⟨gp, h1, h2.keep s (by simp [ksP]) (fun k n hk h => by simp [ksP, bl] at h; omega) (fun q => by simp [ksP, bl]) (fun q => by simp [ksP, bl]) (Nat.le_refl _)⟩
theorem WAt.map {w w' : World} {L L' : Labs} {gw : Nat} {A : Nat → Addr} {cur : Array Value} {X : WS} {mv' : Value} {nm' k : Nat} (h : WAt w L gw A cur X) (hb : BlkAt w' L' (bl 2 0) gw (cur.setIfInBounds 25 mv') 38) (ht : MapsAt w' L' mv' nm') (s : Step (wwP k) L w L' w') :
    WAt w' L' gw A (cur.setIfInBounds 25 mv') { X with mv := mv', nm := nm' } := by
  have hl := (Array.getElem?_eq_some_iff.1 h.c25).1
  refine ⟨hb, by rw [Array.getElem?_setIfInBounds_ne (by omega)]; exact h.c22, by rw [Array.getElem?_setIfInBounds_ne (by omega)]; exact h.c23, by rw [Array.getElem?_setIfInBounds_ne (by omega)]; exact h.c24, by simp [hl],
    h.prs.keep s (by simp [wwP, bl]), fun i v hv => ?_, h.txt.keep s (by simp [wwP, bl]) (fun i _ => by simp [wwP, bl]), h.snd.keep s (by simp [wwP, bl]) (fun i _ => by simp [wwP, bl]), ht, h.err.keep s (by simp [wwP])⟩
  obtain ⟨gp, h1, h2⟩ := h.pr i v hv
  exact ⟨gp, h1, h2.keep s (by simp [wwP]) (fun k n hk h => by simp [wwP, bl] at h; omega) (fun q => by simp [wwP, bl]) (fun q => by simp [wwP, bl]) (Nat.le_refl _)⟩
theorem WAt.step {w w' : World} {L L' : Labs} {gw : Nat} {A : Nat → Addr} {cur : Array Value} {X : WS} (h : WAt w L gw A cur X) (s : Step (fun _ => False) L w L' w') : WAt w' L' gw A cur X := by
  refine ⟨h.blk.keep s (fun h => h), h.c22, h.c23, h.c24, h.c25, h.prs.keep s (fun h => h), fun i v hv => ?_, h.txt.keep s (fun h => h) (fun _ _ h => h), h.snd.keep s (fun h => h) (fun _ _ h => h), h.mps.keep s (fun h => h) (fun _ _ h => h), h.err.keep s (fun h => h)⟩
  obtain ⟨gp, h1, h2⟩ := h.pr i v hv
  exact ⟨gp, h1, h2.keep s (fun h => h) (fun _ _ _ h => h) (fun _ h => h) (fun _ h => h) (Nat.le_refl _)⟩
theorem WAt.below {w w' : World} {L : Labs} {gw : Nat} {A : Nat → Addr} {cur : Array Value} {X : WS} (h : WAt w L gw A cur X) (hb : Below w.heap.size w w') : WAt w' L gw A cur X := h.step (Step.of_below hb)
theorem WAt.later {w : World} {L : Labs} {gw : Nat} {A : Nat → Addr} {cur : Array Value} {X : WS} (h : WAt w L gw A cur X) (t' : Nat) (ht : X.t ≤ t') : WAt w L gw A cur { X with t := t' } := by
  refine ⟨h.blk, h.c22, h.c23, h.c24, h.c25, h.prs, fun i v hv => ?_, h.txt, h.snd, h.mps, h.err⟩
  obtain ⟨gp, h1, h2⟩ := h.pr i v hv
  exact ⟨gp, h1, h2.keep (Step.refl (fun _ => False) L w) (fun h => h) (fun _ _ _ h => h) (fun _ h => h) (fun _ h => h) ht⟩

/-- The agents of one pair have turned. -/
theorem WAt.agents {w w' : World} {L L' : Labs} {gw : Nat} {A : Nat → Addr} {cur : Array Value} {X : WS} (h : WAt w L gw A cur X) {i gp gx gy t' : Nat} {M : Ag} {R : Rf}
    (hv : X.ps[i]? = some (.pointer (some ⟨gp, 0, none⟩))) (hB : BlkAt w L (bl 8 i) gp (prCells gx gy (X.pd i).c (X.pd i).m (X.pd i).sv (X.pd i).lg) 102) (hA : AgentAt w' L' (2 * i + 1) gx M) (hR : RefAt w' L' (2 * i + 2) gy R) (hS : Sim M R) (hI : Inv M t') (ht : X.t ≤ t')
    (s : Step (fun l => ofP (2 * i + 1) l ∨ ofP (2 * i + 2) l) L w L' w') : WAt w' L' gw A cur { X with t := t', ag := upd X.ag i M, rf := upd X.rf i R } := by
  have n0 : ∀ q, ¬ (ofP (2 * i + 1) (some (0, q)) ∨ ofP (2 * i + 2) (some (0, q))) := fun q h => by
    rcases h with h | h
    · exact not_ofP (by omega) q h
    · exact not_ofP (by omega) q h
  have nn : ¬ (ofP (2 * i + 1) none ∨ ofP (2 * i + 2) none) := fun h => by
    rcases h with ⟨q, h⟩ | ⟨q, h⟩ <;> cases h
  refine ⟨h.blk.keep s (n0 _), h.c22, h.c23, h.c24, h.c25, h.prs.keep s (n0 _), fun j v hj => ?_, h.txt.keep s (n0 _) (fun _ _ => n0 _), h.snd.keep s (n0 _) (fun _ _ => n0 _), h.mps.keep s (n0 _) (fun _ _ => n0 _), h.err.keep s nn⟩
  by_cases e : j = i
  · subst e
    have hj' : X.ps[j]? = some v := hj
    rw [hv] at hj'
    cases hj'
    refine ⟨gp, rfl, ?_⟩
    show PairAt w' L' j gp t' (upd X.ag j M j) (upd X.rf j R j) (X.pd j)
    rw [upd_self, upd_self]
    obtain ⟨gp1, e1, gx1, gy1, _, _, _, _, _, q6, q7⟩ := h.pr j _ hv
    exact ⟨gx, gy, hB.keep s (n0 _), hA, hR, hS, hI, q6.keep s (fun _ _ _ => n0 _), q7.keep s nn⟩
  · obtain ⟨gp', e', hP⟩ := h.pr j v hj
    refine ⟨gp', e', ?_⟩
    show PairAt w' L' j gp' t' (upd X.ag i M j) (upd X.rf i R j) (X.pd j)
    rw [upd_other _ _ e, upd_other _ _ e]
    refine hP.keep s nn (fun _ _ _ => n0 _) (fun q h => ?_) (fun q h => ?_) ht
    · rcases h with h | h
      · exact not_ofP (by omega) q h
      · exact not_ofP (by omega) q h
    · rcases h with h | h
      · exact not_ofP (by omega) q h
      · exact not_ofP (by omega) q h
end Go.Proofs.YtojpjaifhjigfaaGreatDoor

/- (*World).asked: all of all agents. -/
namespace Go.Proofs.YtojpjaifhjigfaaGreatDoor
open Go.RowKit Go.Maps

/-- What is labelled, but pairs and stands. -/
def someP : Lab → Prop := fun l => l ≠ none ∧ ∀ k n, l = some (0, .ot k n) → k < 8

set_option maxRecDepth 100000 in
set_option maxHeartbeats 2000000 in
theorem asked_core (L : Labs) (gw : Nat) (A : Nat → Addr) (cur : Array Value) (pv tv sv mv : Value) (np nt ns nm tt : Nat) (ps : List Value) (ag : Nat → Ag) (rf : Nat → Rf) (pd : Nat → PD) (w : World) (h : WAt w L gw A cur ⟨pv, tv, sv, mv, np, nt, ns, nm, tt, ps, ag, rf, pd⟩) (h4 : nt % 4 = 0) (hn : nt + 8 * np ≤ 8000000) (hns : ns ≤ 8000000) (hm : nm + 2 * np ≤ 8000000) :
    Calls Tryz.prog 17 #[.pointer (some ⟨gw, 0, none⟩)] w fun e w' => e = .returned (.bool true) ∧ ∃ L', Step someP L w L' w' := by
  obtain ⟨pa, pk, e, _⟩ := h.prs.shape
  dsimp only at e
  subst e
  have hpl : ps.length = np := by have := h.prs.1.1; simp only at this; omega
  have H := hide h
  clear h
  go_enter Tryz.func17, Tryz.ntmps17
  go_wp2_with fail
  go_loopw [3] (fun i wr => ∃ (t : Nat) (L1 : Labs) (cur1 : Array Value) (tv1 mv1 : Value), t ≤ np ∧ i = .int .i64 t ∧ WAt wr L1 gw A cur1 ⟨.slice pa np pk, tv1, sv, mv1, np, nt + 8 * t, ns, nm + 2 * t, tt, ps, ag, rf, pd⟩ ∧ Step someP L w L1 wr) (fun i _ => np - (intOf i).toNat)
  case atStart => exact ⟨0, L, cur, tv, mv, Nat.zero_le _, rfl, H.out, Step.refl _ _ _⟩
  case round =>
    obtain ⟨t, L1, cur1, tv1, mv1, ht, rfl, hW, hS⟩ := hrel
    have HW := hide hW
    have HS := hide hS
    have a22 : wr.cell? ⟨gw, 22, none⟩ = some (.slice pa np pk) := (hW.blk.1.cell 22).trans hW.c22
    clear hW hS
    by_cases hlt : t < np
    · have hltI : (t : Int) < (np : Int) := by omega
      obtain ⟨gr, rfl, hgr, _, hcell, _⟩ := HW.out.prs.head (by omega)
      obtain ⟨v, hv⟩ : ∃ v, ps[t]? = some v := ⟨_, List.getElem?_eq_getElem (by omega)⟩
      obtain ⟨gp, rfl, hP⟩ := HW.out.pr t v hv
      dsimp only at hP
      generalize ag t = M at *
      generalize rf t = R at *
      generalize pd t = P at *
      have hct := hcell t _ hv
      have HP := hide hP
      have Hv := hide hv
      clear hcell hP hv
      obtain ⟨gx, gy, hpb, hA, hR, hSim, hInv, hStn, hMpn⟩ := HP.out
      have HInv := hide hInv
      clear hStn hMpn
      have HSim := hide hSim
      have HD := hide (wDead_any L1 gw gp gx gy (2 * t + 1) (2 * t + 2) (nt + 8 * t) tv1 cur1 M R wr HW.out.blk HW.out.c23 HW.out.txt (by omega) (by omega) (hpb.1.cell 0) (hpb.1.cell 1) hA hR hInv.dead_lt hSim.dead hSim.bs hInv.b120 hInv.dead_le)
      clear hpb hA hR hSim hInv
      go_wp2_with fail
      refine HD.out.mono ?_
      rintro e w1 ⟨rfl, L2, tv2, hK2, hT2, hS2⟩
      have hW2 := HW.out.text hK2 hT2 hS2
      have HS2 : Hid (Step someP L w L2 w1) := HS.out.trans (hS2.mono (fun l h => by rcases h with ⟨j, _, rfl⟩ | rfl | rfl <;> simp [someP, bl]))
      have HW2 := hide hW2
      have hP2 : PairAt w1 L2 t gp tt M R P := HP.out.keep hS2 (by simp [wdP]) (fun k n hk h => by simp [wdP, bl] at h; omega) (fun q => by simp [wdP, bl]) (fun q => by simp [wdP, bl]) (Nat.le_refl _)
      obtain ⟨gx2, gy2, hpb2, hA2, hR2, _, _, hS6, hS7⟩ := hP2
      have HDw := hide (wWaiting_any L2 gw gp gx2 gy2 (2 * t + 1) (2 * t + 2) (nm + 2 * t) mv1 _ M R w1 HW2.out.blk HW2.out.c25 HW2.out.mps (by omega) (hpb2.1.cell 0) (hpb2.1.cell 1) hA2 hR2 HInv.out.b120 (HSim.out.r120 HInv.out) (by rw [HSim.out.ns]; have := HInv.out.nl; omega) (HSim.out.waits HInv.out) (by rw [HSim.out.ns]; exact HInv.out.nd) (HSim.out.inNs HInv.out) (fun x hx => by rw [HSim.out.ns] at hx; have := (HInv.out.sl x hx).2; unfold maxLen; omega))
      have HP2 := hide (show PairAt w1 L2 t gp tt M R P from ⟨gx2, gy2, hpb2, hA2, hR2, HSim.out, HInv.out, hS6, hS7⟩)
      clear hK2 hT2 hS2 hW2 hpb2 hA2 hR2 hS6 hS7 HD
      go_wp2_with fail
      refine HDw.out.mono ?_
      rintro e w2 ⟨rfl, L3, mv3, hK3, hT3, hS3⟩
      have HW3 := hide (HW2.out.map hK3 hT3 hS3)
      have HS3 : Hid (Step someP L w L3 w2) := HS2.out.trans (hS3.mono (fun l h => by rcases h with ⟨j, _, rfl⟩ | rfl | rfl <;> simp [someP, bl]))
      obtain ⟨gx3, gy3, hpb3, hA3, hR3, _, _, _, _⟩ := HP2.out.keep hS3 (by simp [wwP]) (fun k n hk h => by simp [wwP, bl] at h; omega) (fun q => by simp [wwP, bl]) (fun q => by simp [wwP, bl]) (Nat.le_refl _)
      have HA3 := hide hA3
      have HR3 := hide hR3
      have HE3 := hide (HW3.out.err.hs)
      obtain ⟨nv3, qv3, bv3, dv3, la3, lk3, hrf⟩ := hR3
      obtain ⟨ba, bc, rfl, _⟩ := hrf.tk.shape
      have P0 : Hid (w2.cell? ⟨gp, 0, none⟩ = some (.pointer (some ⟨gx3, 0, none⟩))) := hpb3.1.cell 0
      have P1 : Hid (w2.cell? ⟨gp, 1, none⟩ = some (.pointer (some ⟨gy3, 0, none⟩))) := hpb3.1.cell 1
      have C13 : Hid (w2.cell? ⟨gy3, 13, none⟩ = some (.slice ba R.rs.length bc)) := hrf.blk.1.cell 13
      have HTk := hide hrf.tk
      have hgpl := hpb3.1.lt
      have hgyl := hrf.blk.1.lt
      have hr120 : R.rs.length ≤ 120 := HSim.out.r120 HInv.out
      clear hK3 hT3 hS3 hpb3 hA3 hrf HDw
      go_wp2_with fail
      go_loopw [7, 8] (fun q _ wq => ∃ j : Nat, j ≤ R.rs.length ∧ q = .int .i64 j ∧ Below w2.heap.size w2 wq) (fun q _ _ => R.rs.length - (intOf q).toNat)
      case atStart => exact ⟨0, Nat.zero_le _, rfl, Below.refl _ _⟩
      case round =>
        obtain ⟨j, hj, rfl, hnx⟩ := hrel
        have Hnx := hide hnx
        have p1 : wr.cell? ⟨gp, 1, none⟩ = some (.pointer (some ⟨gy3, 0, none⟩)) := (hnx.cell (p := ⟨gp, 1, none⟩) hgpl).trans P1.out
        have c13 : wr.cell? ⟨gy3, 13, none⟩ = some (.slice ba R.rs.length bc) := (hnx.cell (p := ⟨gy3, 13, none⟩) hgyl).trans C13.out
        clear hnx
        by_cases hjl : j < R.rs.length
        · have hjI : (j : Int) < (R.rs.length : Int) := by omega
          obtain ⟨gb, rfl, hgb, _, hcb, _⟩ := HTk.out.head (by omega)
          obtain ⟨r, hr⟩ : ∃ r, R.rs[j]? = some r := ⟨_, List.getElem?_eq_getElem hjl⟩
          have e2 : wr.cell? ⟨gb, j * 8 + 2, none⟩ = some (encStr r.b.id) := (Hnx.out.cell (p := ⟨gb, _, none⟩) hgb).trans (hcb _ _ (RBat.cell hr (by omega) rfl))
          have HSt := hide (pStatus_any A L3 gp gx3 gy3 (2 * t + 1) (2 * t + 2) M R r.b.id wr (HE3.out.below Hnx.out) ((Hnx.out.cell (p := ⟨gp, 0, none⟩) hgpl).trans P0.out) p1 (HA3.out.keep (Step.of_below (p := fun _ => False) Hnx.out) (fun _ h => h)) (HR3.out.keep (Step.of_below (p := fun _ => False) Hnx.out) (fun _ h => h)) HInv.out.b120 HSim.out.bs)
          clear hcb hr
          go_wp2_with fail
          refine HSt.out.mono ?_
          rintro e w5 ⟨rfl, hb5⟩
          have HB5 : Hid (Below w2.heap.size w2 w5) := Hnx.out.trans (hb5.mono Hnx.out.size)
          clear hb5
          go_wp2_with fail
          go_roundw
          case rel => exact ⟨j + 1, by omega, by go_num, HB5.out⟩
          case measure => simp [intOf]; omega
        · go_wp2_with fail
          go_roundw
          case rel => exact ⟨t + 1, L3, _, tv2, mv3, by omega, by go_num, (HW3.out.below Hnx.out), HS3.out.trans (Step.of_below Hnx.out)⟩
          case measure => simp [intOf]; omega
    · have HF := hide (wholeS_any L1 gw (nt + 8 * t) ns (nm + 2 * t) tv1 sv mv1 cur1 wr HW.out.blk HW.out.c23 HW.out.c24 HW.out.c25 HW.out.txt HW.out.snd HW.out.mps (by omega) (by omega) (by omega))
      go_wp2_with fail
      refine HF.out.mono ?_
      rintro e w1 ⟨rfl, hb1⟩
      have HS1 : Hid (Step someP L w L1 w1) := HS.out.trans (Step.of_below hb1)
      clear hb1
      go_wp2_with fail
      go_ret
      exact ⟨rfl, L1, HS1.out⟩
theorem asked_any (L : Labs) (gw : Nat) (A : Nat → Addr) (cur : Array Value) (X : WS) (w : World) (h : WAt w L gw A cur X) (h4 : X.nt % 4 = 0) (hn : X.nt + 8 * X.np ≤ 8000000) (hns : X.ns ≤ 8000000) (hm : X.nm + 2 * X.np ≤ 8000000) :
    Calls Tryz.prog 17 #[.pointer (some ⟨gw, 0, none⟩)] w fun e w' => e = .returned (.bool true) ∧ ∃ L', Step someP L w L' w' := asked_core L gw A cur X.pv X.tv X.sv X.mv X.np X.nt X.ns X.nm X.t X.ps X.ag X.rf X.pd w h h4 hn hns hm
end Go.Proofs.YtojpjaifhjigfaaGreatDoor

/- (*World).opened: a configuration is opened by the program and by the document's answer. -/
namespace Go.Proofs.YtojpjaifhjigfaaGreatDoor
open Go.RowKit Go.Maps
attribute [local go_sem] run_store_float

theorem run_clear_map {P : Program} {w : World} {t k e : TypeId} {r : Nat} {es : Array MapEntry} {clock : Nat} (hm : P.underlying t = some (.map k e)) (hb : w.heap[r]? = some (.map es clock)) (ty : TypeId) :
    (Builtin.clear_ #[t] ty #[.map (some r)]).run P w = .ok (.tuple #[]) (ChangeMaps.setBlock w r (.map #[] clock)) := by
  simp [Builtin.clear_, run_underlying hm, MapKept.run_getObj_map hb, MapKept.run_setObj_map _ hb, Result.andThen]
  rfl
theorem run_clear_nil {P : Program} {w : World} {t k e : TypeId} (hm : P.underlying t = some (.map k e)) (ty : TypeId) :
    (Builtin.clear_ #[t] ty #[.map none]).run P w = .ok (.tuple #[]) w := by
  simp [Builtin.clear_, run_underlying hm]

theorem below_setBlock {w : World} {r : Nat} {es : Array MapEntry} {clock : Nat} (hb : w.heap[r]? = some (.map es clock)) (o : Obj) : Below r w (ChangeMaps.setBlock w r o) :=
  ⟨rfl, rfl, rfl, by simp [ChangeMaps.setBlock], fun k hk => ChangeMaps.heap_setBlock_other hb o (by omega)⟩
/-- What pick makes of a number. -/
def PickIs (z : Int) (n : Nat) : Prop := ∀ w : World, Calls Tryz.prog 40 #[.int .i64 z, .int .i64 2] w fun e w' => e = .returned (.int .i64 n) ∧ w' = w

set_option maxRecDepth 100000 in
set_option maxHeartbeats 4000000 in
theorem opened_bad_some (z : Int) (n gw : Nat) (hn : n < 2) (hpk : PickIs z n) (A : Nat → Addr) (c : Cfg) (b nb : Nat) (D : DataW Unit) (w : World) (hS : Sents.Holds w 260 gl 11 A) (hown : OM w b nb D) (hnb : nb ≤ big) (hg : ¬ GoodC c D)
    (hcfg : w.cell? ⟨gw, n * 11, none⟩ = some (.int .i64 c.d) ∧ w.cell? ⟨gw, n * 11 + 1, none⟩ = some (.map (some b)) ∧ w.cell? ⟨gw, n * 11 + 2, none⟩ = some (.int .i64 c.q) ∧ w.cell? ⟨gw, n * 11 + 3, none⟩ = some (.int .i64 c.at') ∧ w.cell? ⟨gw, n * 11 + 4, none⟩ = some (.int .i64 c.ba) ∧ w.cell? ⟨gw, n * 11 + 5, none⟩ = some (.int .i64 c.ca) ∧ w.cell? ⟨gw, n * 11 + 6, none⟩ = some (.int .i64 c.ti) ∧ w.cell? ⟨gw, n * 11 + 7, none⟩ = some (.int .i64 c.wi) ∧ w.cell? ⟨gw, n * 11 + 8, none⟩ = some (.int .i64 c.le) ∧ w.cell? ⟨gw, n * 11 + 9, none⟩ = some (.float .f64 c.th) ∧ w.cell? ⟨gw, n * 11 + 10, none⟩ = some (.int .i64 c.op)) :
    Calls Tryz.prog 16 #[.pointer (some ⟨gw, 0, none⟩), .int .i64 z] w fun e w' => e = .returned (.bool true) ∧ Below w.heap.size w w' := by
  obtain ⟨e0, e1, e2, e3, e4, e5, e6, e7, e8, e9, e10⟩ := hcfg
  have HS := hide hS
  have HPk := hide hpk
  have HO := hide hown
  have HG := hide hg
  have hgw := World.block_lt_of_cell? w _ e0
  have hbl := hown.lt
  have hnI : (n : Int) < 2 := by omega
  have hn0 : (0 : Int) ≤ (n : Int) := by omega
  have hnn := fun w => run_neq_map_nil (P := Tryz.prog) w 22 9 3 (some b) Tryz.underlying22
  have hmm := @run_makeMap Tryz.prog
  clear hS hown hg hpk
  go_enter Tryz.func16, Tryz.ntmps16
  go_upto_region 1 with fail
  go_cut [5] (fun s5 wx => s5 = .pointer (some ⟨w.heap.size, 0, none⟩) ∧ wx = (w.alloc (.cells (c.cells (some b)) 25)).drew)
  case first =>
    go_region_held3 (fun w' => w'.cell? ⟨gw, n * 11, none⟩ = some (.int .i64 c.d) ∧ w'.cell? ⟨gw, n * 11 + 1, none⟩ = some (.map (some b)) ∧ w'.cell? ⟨gw, n * 11 + 2, none⟩ = some (.int .i64 c.q) ∧ w'.cell? ⟨gw, n * 11 + 3, none⟩ = some (.int .i64 c.at') ∧ w'.cell? ⟨gw, n * 11 + 4, none⟩ = some (.int .i64 c.ba) ∧ w'.cell? ⟨gw, n * 11 + 5, none⟩ = some (.int .i64 c.ca) ∧ w'.cell? ⟨gw, n * 11 + 6, none⟩ = some (.int .i64 c.ti) ∧ w'.cell? ⟨gw, n * 11 + 7, none⟩ = some (.int .i64 c.wi) ∧ w'.cell? ⟨gw, n * 11 + 8, none⟩ = some (.int .i64 c.le) ∧ w'.cell? ⟨gw, n * 11 + 9, none⟩ = some (.float .f64 c.th) ∧ w'.cell? ⟨gw, n * 11 + 10, none⟩ = some (.int .i64 c.op)) (go_keep)
      (first
        | (go_at_call 40; refine (HPk.out _).mono ?_; rintro e w1 ⟨rfl, rfl⟩))
    all_goals (go_wp2_with fail; go_meet; exact ⟨rfl, rfl⟩)
  case rest =>
  obtain ⟨rfl, hwc⟩ := hcut
  have hK0 : Blk wc w.heap.size (c.cells (some b)) 25 := by rw [hwc]; exact Blk.new w _ _
  have hz0 : wc.heap.size = w.heap.size + 1 := by rw [hwc]; simp
  have hB0 : Below w.heap.size w wc := by rw [hwc]; exact ((Below.refl _ _).alloc (Nat.le_refl _) _).drew
  clear hwc e0 e1 e2 e3 e4 e5 e6 e7 e8 e9 e10
  obtain ⟨e0, e1, e2, e3, e4, e5, e6, e7, e8, e9, e10⟩ : wc.cell? ⟨w.heap.size, 0, none⟩ = some (.int .i64 c.d) ∧ wc.cell? ⟨w.heap.size, 1, none⟩ = some (.map (some b)) ∧ wc.cell? ⟨w.heap.size, 2, none⟩ = some (.int .i64 c.q) ∧ wc.cell? ⟨w.heap.size, 3, none⟩ = some (.int .i64 c.at') ∧ wc.cell? ⟨w.heap.size, 4, none⟩ = some (.int .i64 c.ba) ∧ wc.cell? ⟨w.heap.size, 5, none⟩ = some (.int .i64 c.ca) ∧ wc.cell? ⟨w.heap.size, 6, none⟩ = some (.int .i64 c.ti) ∧ wc.cell? ⟨w.heap.size, 7, none⟩ = some (.int .i64 c.wi) ∧ wc.cell? ⟨w.heap.size, 8, none⟩ = some (.int .i64 c.le) ∧ wc.cell? ⟨w.heap.size, 9, none⟩ = some (.float .f64 c.th) ∧ wc.cell? ⟨w.heap.size, 10, none⟩ = some (.int .i64 c.op) := ⟨hK0.cell 0, hK0.cell 1, hK0.cell 2, hK0.cell 3, hK0.cell 4, hK0.cell 5, hK0.cell 6, hK0.cell 7, hK0.cell 8, hK0.cell 9, hK0.cell 10⟩
  have HK0 := hide hK0
  have HB0 := hide hB0
  have Hz0 := hide hz0
  have hlt0 : w.heap.size < wc.heap.size := hK0.lt
  clear hK0 hB0 hz0
  have hownc : OM wc b nb D := om_below HO.out HB0.out hbl
  have hblc : b < wc.heap.size := hownc.lt
  have hsize : Maps.size D ≤ nb := hownc.size_le
  go_wp2_with (first
    | (at_range; refine wpList_range_own _ rfl _ 22 rfl 9 3 lawS Tryz.underlying22 _ b nb _ rfl ((hownc.alloc _).alloc _) ?_; intro w0 hrg0 hg0 hs0)
    | fail)
  try go_frame
  try simp only [World.size_alloc] at hrg0 ⊢
  generalize hN : wc.heap.size = N at *
  have HNe := hide hN
  have hw0K : Blk w0 N (c.cells (some (N + 1))) 25 := by
    have h1 := ((Blk.made hN (c.cells (some (N + 1))) 25).alloc (.map #[] 0)).grown hg0 (by simp)
    exact h1
  have hw0M : OM w0 (N + 1) 0 (.map []) := (om_new (by simp [hN])).kept hg0 (by simp)
  have hw0B : Below N wc w0 := (((Below.refl _ _).alloc (by omega) _).alloc (by simp; omega) _).grown hg0 (by simp; omega) (fun j hj => by cases hj)
  have HK := hide hw0K
  have HM := hide hw0M
  have HB := hide hw0B
  clear hw0K hw0M hw0B hg0 hs0 hN e0 e1 e2 e3 e4 e5 e6 e7 e8 e9 e10
  go_loopw [7] (fun _ wr => ∃ (left : Lit → Bool) (cnt : Nat) (Dout : DataW Unit), RG wr b (N + 1 + 1) nb D left cnt ∧ cnt ≤ Maps.size D ∧ OM wr (N + 1) (Maps.size D - cnt) Dout ∧ Agree Dout D left ∧
      Blk wr N (c.cells (some (N + 1))) 25 ∧ Below N wc wr) (fun _ wr => wr.rangeLeft b (N + 1 + 1))
  case atStart => exact ⟨_, _, .map [], hrg0, Nat.le_refl _, HM.out.mono (Nat.zero_le _), agree_start D, HK.out, HB.out⟩
  case round =>
    obtain ⟨left, cnt, Dout, hrg, hcs, hout, hA, hK, hnx⟩ := hrel
    have Hout := hide hout
    have HA := hide hA
    have HK1 := hide hK
    have Hnx := hide hnx
    have hNw : N < wr.heap.size := hK.lt
    have e1 : wr.cell? ⟨N, 1, none⟩ = some (.map (some (N + 1))) := hK.cell 1
    clear hout hA hK hnx
    go_wp2_with (first
      | (at_next; refine wpList_next_ranges _ rfl _ rfl 9 lawS (plainElem Tryz.prog 3) encStr (Value.int .i64) invK invV b (N + 1 + 1) nb _ _ _ rfl hrg ?_ ?_)
      | fail)
    · intro hc0 hl0
      have hE : Dout = D := agree_end HA.out hl0 (Hout.out.canon lawS) (HO.out.canon lawS)
      subst hE
      clear hl0 e1
      have hNw' : N ≤ wr.heap.size := by omega
      have hwN : w.heap.size < N := by have := HNe.out; omega
      have HBw : Hid (Below w.heap.size w wr) := HB0.out.trans (Hnx.out.mono (by omega))
      have HKc : Hid (Blk wr w.heap.size (c.cells (some b)) 25) := HK0.out.below Hnx.out hwN
      have HMo : Hid (OM wr (N + 1) big Dout) := Hout.out.mono (by unfold big at *; omega)
      have HMb : Hid (OM wr b nb Dout) := om_below hownc Hnx.out (by have := HNe.out; omega)
      clear Hout hownc hrg hcs hrg0
      go_wp2_with (first
        | (refine wpList_load_mid rfl 25 _ rfl N 0 rfl (c.cells (some (N + 1))).toList _ (HK1.out.range 0 _ rfl) Tryz.underlying25 rfl infoConfig ?_)
        | fail)
      refine (open_bad A c (some (N + 1)) Dout _ (HS.out.below HBw.out) (Or.inr ⟨N + 1, big, rfl, HMo.out, Nat.le_refl _⟩) HG.out).mono ?_
      rintro e w3 ⟨rfl, hb3⟩
      have HBw3 : Hid (Below w.heap.size w w3) := HBw.out.trans (hb3.mono HBw.out.size)
      have HKc3 : Hid (Blk w3 w.heap.size (c.cells (some b)) 25) := HKc.out.below hb3 HKc.out.lt
      have HKo3 : Hid (Blk w3 N (c.cells (some (N + 1))) 25) := HK1.out.below hb3 HK1.out.lt
      have HMo3 : Hid (OM w3 (N + 1) big Dout) := om_below HMo.out hb3 HMo.out.lt
      have HMb3 : Hid (OM w3 b nb Dout) := om_below HMb.out hb3 HMb.out.lt
      have hz3 : wr.heap.size ≤ w3.heap.size := hb3.size
      clear hb3
      go_wp2_with (first
        | (refine wpList_load_mid rfl 25 _ rfl w.heap.size 0 rfl (c.cells (some b)).toList _ (HKc3.out.range 0 _ rfl) Tryz.underlying25 rfl infoConfig ?_)
        | fail)
      refine (good_any c (some b) Dout _ (Or.inr ⟨b, nb, rfl, HMb3.out, hnb⟩)).mono ?_
      rintro e w4 ⟨⟨r4, rfl, hr4⟩, hb4⟩
      have hr4' : r4 = false := by cases r4 with | false => rfl | true => exact absurd (hr4.1 rfl) HG.out
      subst hr4'
      clear hr4
      have HBw4 : Hid (Below w.heap.size w w4) := HBw3.out.trans (hb4.mono HBw3.out.size)
      have HKc4 : Hid (Blk w4 w.heap.size (c.cells (some b)) 25) := HKc3.out.below hb4 HKc3.out.lt
      have HKo4 : Hid (Blk w4 N (c.cells (some (N + 1))) 25) := HKo3.out.below hb4 HKo3.out.lt
      have HMo4 : Hid (OM w4 (N + 1) big Dout) := om_below HMo3.out hb4 HMo3.out.lt
      have HMb4 : Hid (OM w4 b nb Dout) := om_below HMb3.out hb4 HMb3.out.lt
      have k41 : w4.cell? ⟨N, 1, none⟩ = some (.map (some (N + 1))) := HKo4.out.cell 1
      have hz4 : w3.heap.size ≤ w4.heap.size := hb4.size
      clear hb4
      go_wp2_with (first
        | (refine wpList_load_mid rfl 25 _ rfl w.heap.size 0 rfl (c.cells (some b)).toList _ (HKc4.out.range 0 _ rfl) Tryz.underlying25 rfl infoConfig ?_)
        | fail)
      refine (same_some c (N + 1) b big nb Dout _ HMo4.out HMb4.out).mono ?_
      rintro e w5 ⟨rfl, hb5⟩
      have HBw5 : Hid (Below w.heap.size w w5) := HBw4.out.trans (hb5.mono HBw4.out.size)
      have HKc5 : Hid (Blk w5 w.heap.size (c.cells (some b)) 25) := HKc4.out.below hb5 HKc4.out.lt
      have HKo5 : Hid (Blk w5 N (c.cells (some (N + 1))) 25) := HKo4.out.below hb5 HKo4.out.lt
      have HMb5 : Hid (OM w5 b nb Dout) := om_below HMb4.out hb5 HMb4.out.lt
      obtain ⟨es5, clock5, hes5, _⟩ := om_below HMo4.out hb5 HMo4.out.lt
      have k51 : w5.cell? ⟨N, 1, none⟩ = some (.map (some (N + 1))) := HKo5.out.cell 1
      have hclr := fun ty => run_clear_map (P := Tryz.prog) Tryz.underlying22 hes5 ty
      have hz5 : w4.heap.size ≤ w5.heap.size := hb5.size
      have hb6 : Below (N + 1) w5 (ChangeMaps.setBlock w5 (N + 1) (.map #[] clock5)) := below_setBlock hes5 _
      generalize hw6 : ChangeMaps.setBlock w5 (N + 1) (.map #[] clock5) = w6 at *
      have HBw6 : Hid (Below w.heap.size w w6) := HBw5.out.trans (hb6.mono (by omega))
      have hz6 : w6.heap.size = w5.heap.size := by rw [← hw6]; simp [ChangeMaps.setBlock]
      have hoth6 : ∀ k, k ≠ N + 1 → w6.heap[k]? = w5.heap[k]? := by rw [← hw6]; exact fun k hk => ChangeMaps.heap_setBlock_other hes5 _ hk
      have HZ6 := hide hz6
      have HO6 := hide hoth6
      clear hw6 hb5 hb6 hes5 k41 hz6 hoth6
      have z0 := HS.out.cell 0 (by omega)
      simp only [gl, List.getD_cons_zero] at z0
      have hlt0 := World.block_lt_of_cell? w _ z0
      have g0 : w6.cell? ⟨_, 0, none⟩ = some (ev A 0) := (HBw6.out.cell (p := ⟨_, 0, none⟩) hlt0).trans z0
      clear z0
      have heq := fun w => eql_same A 0 w
      go_wp2_with fail
      go_ret
      exact ⟨rfl, HBw6.out⟩
    · intro x q kl yd yp w2 cnt2 hkey hlk hv hat hrg2 hlt hg2 hs2 hen
      obtain ⟨x', ex, rfl, hxl⟩ := Maps.keyOf_str Tryz.underlying9 hkey
      obtain rfl : x = x' := encStr_inj ex
      obtain ⟨q', eq', ey, hwq⟩ := plainElem_int_inv Tryz.underlying3 hv
      obtain rfl : q = q' := by simpa using eq'
      obtain ⟨rfl, rfl⟩ : yd = .lit (.int .i64 q) ∧ yp = [] := by simpa using ey
      have hout1 : OM w2 (N + 1) (Maps.size D - cnt) Dout := Hout.out.kept hg2 (by simp)
      have HK2 : Hid (Blk w2 N (c.cells (some (N + 1))) 25) := HK1.out.grown hg2 (by simp; omega)
      have hN2 : N ≤ wc.heap.size := by rw [HNe.out]; exact Nat.le_refl _
      have HB2 : Hid (Below N wc w2) := Hnx.out.grown hg2 (by omega) (fun j hj => by cases hj; omega)
      have HA2 := hide (agree_step (kl := .string x) HA.out Hout.out.isMap trivial hat)
      have HMe : Hid (cnt2 < wr.rangeLeft b (N + 1 + 1)) := by rw [hrg.left_eq]; exact hlt
      have Hrg2 := hide hrg2
      have hc2 : cnt2 < cnt := hlt
      have hNw2 : N < w2.heap.size := HK2.out.lt
      have e1' : w2.cell? ⟨N, 1, none⟩ = some (.map (some (N + 1))) := HK2.out.cell 1
      clear hlk hv hat ex eq' ey hs2 hlt hg2 hrg2 e1
      go_wp2_with (first
        | (at_mapUpdate; refine wpList_mapUpdate_own _ rfl _ _ _ 22 rfl 9 3 lawS Tryz.underlying22 _ (N + 1) _ _ rfl hout1 (by unfold maxLen; unfold big at hnb; omega) _ _ _ rfl rfl hkey _ [] (plainElem_int Tryz.underlying3 hwq) ?_; intro w3 hout3 hg3; go_frame)
        | fail)
      have hrg3 := Hrg2.out.kept hg3 (by simp; omega) (by simp)
      have hN3 : Blk w3 N (c.cells (some (N + 1))) 25 := HK2.out.grown hg3 (by simp)
      have hB3 : Below N wc w3 := HB2.out.grown hg3 (by omega) (fun j hj => by cases hj; omega)
      go_roundw
      case rel => exact ⟨_, cnt2, _, hrg3, by omega, hout3.mono (by omega), HA2.out, hN3, hB3⟩
      case measure => rw [hrg3.left_eq]; exact HMe.out

set_option maxRecDepth 100000 in
set_option maxHeartbeats 4000000 in
theorem opened_bad_nil (z : Int) (n gw : Nat) (hn : n < 2) (hpk : PickIs z n) (A : Nat → Addr) (c : Cfg) (w : World) (hS : Sents.Holds w 260 gl 11 A)
    (hcfg : w.cell? ⟨gw, n * 11, none⟩ = some (.int .i64 c.d) ∧ w.cell? ⟨gw, n * 11 + 1, none⟩ = some (.map (none)) ∧ w.cell? ⟨gw, n * 11 + 2, none⟩ = some (.int .i64 c.q) ∧ w.cell? ⟨gw, n * 11 + 3, none⟩ = some (.int .i64 c.at') ∧ w.cell? ⟨gw, n * 11 + 4, none⟩ = some (.int .i64 c.ba) ∧ w.cell? ⟨gw, n * 11 + 5, none⟩ = some (.int .i64 c.ca) ∧ w.cell? ⟨gw, n * 11 + 6, none⟩ = some (.int .i64 c.ti) ∧ w.cell? ⟨gw, n * 11 + 7, none⟩ = some (.int .i64 c.wi) ∧ w.cell? ⟨gw, n * 11 + 8, none⟩ = some (.int .i64 c.le) ∧ w.cell? ⟨gw, n * 11 + 9, none⟩ = some (.float .f64 c.th) ∧ w.cell? ⟨gw, n * 11 + 10, none⟩ = some (.int .i64 c.op)) :
    Calls Tryz.prog 16 #[.pointer (some ⟨gw, 0, none⟩), .int .i64 z] w fun e w' => e = .returned (.bool true) ∧ Below w.heap.size w w' := by
  obtain ⟨e0, e1, e2, e3, e4, e5, e6, e7, e8, e9, e10⟩ := hcfg
  have HS := hide hS
  have HPk := hide hpk
  have HG : Hid (¬ GoodC c (.map [])) := fun h => absurd h.2.1.1.1 (by simp [Maps.size])
  have hgw := World.block_lt_of_cell? w _ e0
  have hnI : (n : Int) < 2 := by omega
  have hn0 : (0 : Int) ≤ (n : Int) := by omega
  have hnn := fun w => run_neq_map_nil (P := Tryz.prog) w 22 9 3 none Tryz.underlying22
  clear hS hpk
  go_enter Tryz.func16, Tryz.ntmps16
  go_upto_region 1 with fail
  go_cut [5] (fun s5 wx => s5 = .pointer (some ⟨w.heap.size, 0, none⟩) ∧ wx = (w.alloc (.cells (c.cells none) 25)).drew)
  case first =>
    go_region_held3 (fun w' => w'.cell? ⟨gw, n * 11, none⟩ = some (.int .i64 c.d) ∧ w'.cell? ⟨gw, n * 11 + 1, none⟩ = some (.map (none)) ∧ w'.cell? ⟨gw, n * 11 + 2, none⟩ = some (.int .i64 c.q) ∧ w'.cell? ⟨gw, n * 11 + 3, none⟩ = some (.int .i64 c.at') ∧ w'.cell? ⟨gw, n * 11 + 4, none⟩ = some (.int .i64 c.ba) ∧ w'.cell? ⟨gw, n * 11 + 5, none⟩ = some (.int .i64 c.ca) ∧ w'.cell? ⟨gw, n * 11 + 6, none⟩ = some (.int .i64 c.ti) ∧ w'.cell? ⟨gw, n * 11 + 7, none⟩ = some (.int .i64 c.wi) ∧ w'.cell? ⟨gw, n * 11 + 8, none⟩ = some (.int .i64 c.le) ∧ w'.cell? ⟨gw, n * 11 + 9, none⟩ = some (.float .f64 c.th) ∧ w'.cell? ⟨gw, n * 11 + 10, none⟩ = some (.int .i64 c.op)) (go_keep)
      (first
        | (go_at_call 40; refine (HPk.out _).mono ?_; rintro e w1 ⟨rfl, rfl⟩))
    all_goals (go_wp2_with fail; go_meet; exact ⟨rfl, rfl⟩)
  case rest =>
  obtain ⟨rfl, hwc⟩ := hcut
  have hK0 : Blk wc w.heap.size (c.cells none) 25 := by rw [hwc]; exact Blk.new w _ _
  have hz0 : wc.heap.size = w.heap.size + 1 := by rw [hwc]; simp
  have hB0 : Below w.heap.size w wc := by rw [hwc]; exact ((Below.refl _ _).alloc (Nat.le_refl _) _).drew
  clear hwc e0 e1 e2 e3 e4 e5 e6 e7 e8 e9 e10
  obtain ⟨e0, e1, e2, e3, e4, e5, e6, e7, e8, e9, e10⟩ : wc.cell? ⟨w.heap.size, 0, none⟩ = some (.int .i64 c.d) ∧ wc.cell? ⟨w.heap.size, 1, none⟩ = some (.map (none)) ∧ wc.cell? ⟨w.heap.size, 2, none⟩ = some (.int .i64 c.q) ∧ wc.cell? ⟨w.heap.size, 3, none⟩ = some (.int .i64 c.at') ∧ wc.cell? ⟨w.heap.size, 4, none⟩ = some (.int .i64 c.ba) ∧ wc.cell? ⟨w.heap.size, 5, none⟩ = some (.int .i64 c.ca) ∧ wc.cell? ⟨w.heap.size, 6, none⟩ = some (.int .i64 c.ti) ∧ wc.cell? ⟨w.heap.size, 7, none⟩ = some (.int .i64 c.wi) ∧ wc.cell? ⟨w.heap.size, 8, none⟩ = some (.int .i64 c.le) ∧ wc.cell? ⟨w.heap.size, 9, none⟩ = some (.float .f64 c.th) ∧ wc.cell? ⟨w.heap.size, 10, none⟩ = some (.int .i64 c.op) := ⟨hK0.cell 0, hK0.cell 1, hK0.cell 2, hK0.cell 3, hK0.cell 4, hK0.cell 5, hK0.cell 6, hK0.cell 7, hK0.cell 8, hK0.cell 9, hK0.cell 10⟩
  have HK0 := hide hK0
  have HB0 := hide hB0
  have hlt0 : w.heap.size < wc.heap.size := hK0.lt
  have hrg := fun cs => run_range_nilMap (P := Tryz.prog) (wc.alloc (.cells cs 25)) 22 9 3 Tryz.underlying22
  have hnx : ∀ cs ty, (Instr.next (.pointer (some ⟨(wc.alloc (.cells cs 25)).heap.size, 0, none⟩)) false ty).run Tryz.prog ((wc.alloc (.cells cs 25)).alloc (.mapIter none 0 #[] 0)) = _ := fun cs ty => run_next_nilMap _ ty 0 0 #[]
  simp only [World.size_alloc] at hrg hnx
  clear hK0 hB0 hz0
  go_wp2_with fail
  refine wp_loop_rounds 1 ?_
  rw [rounds_succ]
  go_wp2_with fail
  generalize hW : World.alloc (World.alloc wc _) (Obj.mapIter none 0 #[] 0) = wr
  have HKo : Hid (Blk wr wc.heap.size (c.cells none) 25) := by rw [← hW]; exact (Blk.new wc _ _).alloc _
  have hBr : Below wc.heap.size wc wr := by rw [← hW]; exact ((Below.refl _ _).alloc (Nat.le_refl _) _).alloc (by simp) _
  have HKc : Hid (Blk wr w.heap.size (c.cells none) 25) := HK0.out.below hBr hlt0
  have HBw : Hid (Below w.heap.size w wr) := HB0.out.trans (hBr.mono (by omega))
  clear hW hBr hrg hnx e0 e1 e2 e3 e4 e5 e6 e7 e8 e9 e10
  refine (open_bad A c none (.map []) _ (HS.out.below HBw.out) (Or.inl ⟨rfl, rfl⟩) HG.out).mono ?_
  rintro e w3 ⟨rfl, hb3⟩
  have HBw3 : Hid (Below w.heap.size w w3) := HBw.out.trans (hb3.mono HBw.out.size)
  have HKc3 : Hid (Blk w3 w.heap.size (c.cells none) 25) := HKc.out.below hb3 HKc.out.lt
  have HKo3 : Hid (Blk w3 wc.heap.size (c.cells none) 25) := HKo.out.below hb3 HKo.out.lt
  clear hb3
  go_wp2_with (first
    | (refine wpList_load_mid rfl 25 _ rfl w.heap.size 0 rfl (c.cells none).toList _ (HKc3.out.range 0 _ rfl) Tryz.underlying25 rfl infoConfig ?_)
    | fail)
  refine (good_any c none (.map []) _ (Or.inl ⟨rfl, rfl⟩)).mono ?_
  rintro e w4 ⟨⟨r4, rfl, hr4⟩, hb4⟩
  have hr4' : r4 = false := by cases r4 with | false => rfl | true => exact absurd (hr4.1 rfl) HG.out
  subst hr4'
  clear hr4
  have HBw4 : Hid (Below w.heap.size w w4) := HBw3.out.trans (hb4.mono HBw3.out.size)
  have HKc4 : Hid (Blk w4 w.heap.size (c.cells none) 25) := HKc3.out.below hb4 HKc3.out.lt
  have HKo4 : Hid (Blk w4 wc.heap.size (c.cells none) 25) := HKo3.out.below hb4 HKo3.out.lt
  have k41 : w4.cell? ⟨wc.heap.size, 1, none⟩ = some (.map none) := HKo4.out.cell 1
  clear hb4
  go_wp2_with (first
    | (refine wpList_load_mid rfl 25 _ rfl w.heap.size 0 rfl (c.cells none).toList _ (HKc4.out.range 0 _ rfl) Tryz.underlying25 rfl infoConfig ?_)
    | fail)
  refine (same_nil c _).mono ?_
  rintro e w5 ⟨rfl, hb5⟩
  have HBw5 : Hid (Below w.heap.size w w5) := HBw4.out.trans (hb5.mono HBw4.out.size)
  have HKo5 : Hid (Blk w5 wc.heap.size (c.cells none) 25) := HKo4.out.below hb5 HKo4.out.lt
  have k51 : w5.cell? ⟨wc.heap.size, 1, none⟩ = some (.map none) := HKo5.out.cell 1
  have hclr := fun ty => run_clear_nil (P := Tryz.prog) (w := w5) Tryz.underlying22 ty
  clear hb5 k41
  have z0 := HS.out.cell 0 (by omega)
  simp only [gl, List.getD_cons_zero] at z0
  have hltz := World.block_lt_of_cell? w _ z0
  have g0 : w5.cell? ⟨_, 0, none⟩ = some (ev A 0) := (HBw5.out.cell (p := ⟨_, 0, none⟩) hltz).trans z0
  clear z0
  have heq := fun w => eql_same A 0 w
  go_wp2_with fail
  go_ret
  exact ⟨rfl, HBw5.out⟩

theorem opened_bad (z : Int) (n gw : Nat) (hn : n < 2) (hpk : PickIs z n) (A : Nat → Addr) (c : Cfg) (m : Option Nat) (D : DataW Unit) (w : World) (hS : Sents.Holds w 260 gl 11 A) (h : MapAt w m D) (hg : ¬ GoodC c D)
    (hcfg : w.cell? ⟨gw, n * 11, none⟩ = some (.int .i64 c.d) ∧ w.cell? ⟨gw, n * 11 + 1, none⟩ = some (.map (m)) ∧ w.cell? ⟨gw, n * 11 + 2, none⟩ = some (.int .i64 c.q) ∧ w.cell? ⟨gw, n * 11 + 3, none⟩ = some (.int .i64 c.at') ∧ w.cell? ⟨gw, n * 11 + 4, none⟩ = some (.int .i64 c.ba) ∧ w.cell? ⟨gw, n * 11 + 5, none⟩ = some (.int .i64 c.ca) ∧ w.cell? ⟨gw, n * 11 + 6, none⟩ = some (.int .i64 c.ti) ∧ w.cell? ⟨gw, n * 11 + 7, none⟩ = some (.int .i64 c.wi) ∧ w.cell? ⟨gw, n * 11 + 8, none⟩ = some (.int .i64 c.le) ∧ w.cell? ⟨gw, n * 11 + 9, none⟩ = some (.float .f64 c.th) ∧ w.cell? ⟨gw, n * 11 + 10, none⟩ = some (.int .i64 c.op)) :
    Calls Tryz.prog 16 #[.pointer (some ⟨gw, 0, none⟩), .int .i64 z] w fun e w' => e = .returned (.bool true) ∧ Below w.heap.size w w' := by
  rcases h with ⟨rfl, rfl⟩ | ⟨b, nb, rfl, h2, h3⟩
  · exact opened_bad_nil z n gw hn hpk A c w hS hcfg
  · exact opened_bad_some z n gw hn hpk A c b nb D w hS h2 h3 hg hcfg
end Go.Proofs.YtojpjaifhjigfaaGreatDoor
