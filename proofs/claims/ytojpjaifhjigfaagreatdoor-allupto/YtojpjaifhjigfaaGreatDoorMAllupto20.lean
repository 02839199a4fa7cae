/- Steps of the proof (several texts in one): LawDead, LawStatus, RefOver2. -/
import Derived.Test.YtojpjaifhjigfaaGreatDoorMAllupto05
import Derived.Test.YtojpjaifhjigfaaGreatDoorMAllupto19
import Derived.Test.YtojpjaifhjigfaaGreatDoorMAllupto15
import Derived.Test.YtojpjaifhjigfaaGreatDoorMAllupto18

/- (*World).dead, (*World).waiting, (*pair).status: what is asked of a pair. -/
namespace Go.Proofs.YtojpjaifhjigfaaGreatDoor
open Go.RowKit Go.Maps

/-- What World.dead may turn. -/
def wdP (k : Nat) : Lab → Prop := fun l => (∃ j, k ≤ j ∧ l = bl 0 j) ∨ l = bl 1 0 ∨ l = bl 2 0

theorem rowAt_texts {w w' : World} {L : Labs} {l : Lab} {g n : Nat} {xs : List Value} (h : w'.ownsRow w.heap.size 9 1 (.slice (some ⟨g, 0, none⟩) n n) n xs) (hl : L g = l) : RowAt w' L l 9 1 (.slice (some ⟨g, 0, none⟩) n n) n xs := by
  refine ⟨⟨h.1, ?_⟩, fun q hq => ?_⟩
  · rcases h.2 with ⟨e, _⟩ | ⟨q, c, cur, q1, q2, q3⟩
    · cases e
    · exact Or.inr ⟨q, c, cur, q1, Nat.zero_le _, q3⟩
  · obtain rfl : g = q := by simpa [Value.ownBlock] using hq
    exact hl

theorem textCell {w : World} {B g n cap k : Nat} {xs : List Value} {v : Value} (h : w.ownsRow B 9 1 (.slice (some ⟨g, 0, none⟩) n cap) n xs) (hx : xs[k]? = some v) : w.cell? ⟨g, k, none⟩ = some v := by
  have := row_add h rfl hx
  rwa [show (⟨g, 0, none⟩ : Addr).add k = ⟨g, k, none⟩ from by unfold Addr.add; split <;> simp_all] at this

set_option maxRecDepth 100000 in
set_option maxHeartbeats 2000000 in
theorem wDead_any (L : Labs) (gw gp gx gy who who2 n : Nat) (tv : Value) (cur : Array Value) (M : Ag) (R : Rf) (w : World) (hK : BlkAt w L (bl 2 0) gw cur 38) (hc : cur[23]? = some tv) (hT : TextsAt w L tv n) (h4 : n % 4 = 0) (hn : n + 4 ≤ 8000000)
    (p0 : w.cell? ⟨gp, 0, none⟩ = some (.pointer (some ⟨gx, 0, none⟩))) (p1 : w.cell? ⟨gp, 1, none⟩ = some (.pointer (some ⟨gy, 0, none⟩))) (hA : AgentAt w L who gx M) (hR : RefAt w L who2 gy R) (hd : ∀ p ∈ M.dead, p < M.bs.length) (hd2 : R.dead = M.dead) (hbs : R.bs = M.bs) (hb : M.bs.length ≤ 120) (hdl : M.dead.length ≤ 120) :
    Calls Tryz.prog 44 #[.pointer (some ⟨gw, 0, none⟩), .pointer (some ⟨gp, 0, none⟩)] w fun e w' => e = .returned (.bool true) ∧ ∃ L' tv', BlkAt w' L' (bl 2 0) gw (cur.setIfInBounds 23 tv') 38 ∧ TextsAt w' L' tv' (n + 4 + 4) ∧ Step (wdP (n / 4)) L w L' w' := by
  have hrl : R.rs.length = M.bs.length := by have := congrArg List.length hbs; simpa [Rf.bs] using this
  have hids : R.ids = M.ids := by unfold Rf.ids Ag.ids; rw [hd2, hbs]
  have hgpl := World.block_lt_of_cell? w _ p0
  have H1 := hide (fun w (hA : AgentAt w L who gx M) => dead_any L who gx M w hA hd hb hdl)
  have H3 := hide (fun w (hR : RefAt w L who2 gy R) => refDied_any L who2 gy R w hR (by rw [hd2, hrl]; exact hd) (by omega) (by rw [hd2]; exact hdl))
  rw [hids] at H3
  have hil : M.ids.length ≤ 120 := by simp [Ag.ids]; exact hdl
  have HK := hide hK
  have HC := hide hc
  have HT := hide hT
  have HA := hide hA
  have HR := hide hR
  have P0 := hide p0
  have P1 := hide p1
  generalize hids' : M.ids = ids at *
  clear hK hc hT hA hR hd hd2 p0 p1 hids hids' hrl hbs
  obtain ⟨D, hD⟩ : ∃ D, ids.length = D := ⟨_, rfl⟩
  go_enter Tryz.func44, Tryz.ntmps44
  have p0 := P0.out
  go_wp2_with fail
  refine (H1.out w HA.out).mono ?_
  rintro e w1 ⟨g1, rfl, hg1, hr1, hb1⟩
  rw [hD] at hr1 ⊢
  have p0' : w1.cell? ⟨gp, 0, none⟩ = some (.pointer (some ⟨gx, 0, none⟩)) := (hb1.cell (p := ⟨gp, 0, none⟩) hgpl).trans P0.out
  have hz1 : w.heap.size ≤ w1.heap.size := hb1.size
  have Hg1 := hide hg1
  have Hr1 := hide hr1
  have Hb1 := hide hb1
  clear hg1 hr1 hb1 p0
  go_wp2_with fail
  refine (H1.out w1 (HA.out.keep (Step.of_below (p := fun _ => False) Hb1.out) (fun _ h => h))).mono ?_
  rintro e w2 ⟨g2, rfl, hg2, hr2, hb2⟩
  rw [hD] at hr2 ⊢
  have hB2 : Below w.heap.size w w2 := Hb1.out.trans (hb2.mono hz1)
  have p1' : w2.cell? ⟨gp, 1, none⟩ = some (.pointer (some ⟨gy, 0, none⟩)) := (hB2.cell (p := ⟨gp, 1, none⟩) hgpl).trans P1.out
  have Hg2 := hide hg2
  have Hr2 := hide hr2
  have Hb2 := hide hb2
  have HB2 := hide hB2
  have hz2 : w1.heap.size ≤ w2.heap.size := hb2.size
  clear hg2 hr2 hb2 hB2 p0' H1
  go_wp2_with fail
  refine (H3.out w2 (HR.out.keep (Step.of_below (p := fun _ => False) HB2.out) (fun _ h => h))).mono ?_
  rintro e w3 ⟨v3, rfl, hr3, hb3⟩
  rw [hD] at hr3
  obtain ⟨da, dc, rfl, _⟩ := (show RowAt w3 (fun _ => none) none 9 1 v3 D (ids.map encStr) from ⟨⟨hr3.1, by rcases hr3.2 with q | ⟨q, c, cu, q1, q2, q3⟩; exact Or.inl q; exact Or.inr ⟨q, c, cu, q1, Nat.zero_le _, q3⟩⟩, fun _ _ => rfl⟩).shape
  have hz3 : w2.heap.size ≤ w3.heap.size := hb3.size
  have HB3 : Hid (Below w.heap.size w w3) := HB2.out.trans (hb3.mono (by omega))
  have Hr3 := hide hr3
  have Hb3 := hide hb3
  clear hr3 hb3 p1' H3
  go_wp2_with fail
  go_loopw [8, 9] (fun s i wr => ∃ k : Nat, k ≤ D ∧ i = .int .i64 k ∧ s = .bool true ∧ Below w3.heap.size w3 wr) (fun _ i _ => D - (intOf i).toNat)
  case atStart => exact ⟨0, Nat.zero_le _, rfl, rfl, Below.refl _ _⟩
  case round =>
    obtain ⟨k, hk, rfl, rfl, hnx⟩ := hrel
    have Hnx := hide hnx
    by_cases hlt : k < D
    · have hltI : (k : Int) < (D : Int) := by omega
      have hkl : k < ids.length := by omega
      have hx : (ids.map encStr)[k]? = some (encStr ids[k]) := by rw [List.getElem?_map, List.getElem?_eq_getElem hkl]; rfl
      obtain ⟨g3, c3, e3, hg3, hg3'⟩ := Hr3.out.form (by omega)
      have hda : da = some ⟨g3, 0, none⟩ := by simpa using (Value.slice.inj e3).1
      subst hda
      have a1 : wr.cell? ⟨g1, k, none⟩ = some (encStr ids[k]) := by
        have l1 := (Hr1.out.lt g1 (by simp [Value.ownBlock])).2
        rw [hnx.cell (p := ⟨g1, k, none⟩) (by show g1 < w3.heap.size; omega), Hb3.out.cell (p := ⟨g1, k, none⟩) (by show g1 < w2.heap.size; omega), Hb2.out.cell (p := ⟨g1, k, none⟩) (by show g1 < w1.heap.size; omega)]
        exact textCell Hr1.out hx
      have a2 : wr.cell? ⟨g2, k, none⟩ = some (encStr ids[k]) := by
        have l2 := (Hr2.out.lt g2 (by simp [Value.ownBlock])).2
        rw [hnx.cell (p := ⟨g2, k, none⟩) (by show g2 < w3.heap.size; omega), Hb3.out.cell (p := ⟨g2, k, none⟩) (by show g2 < w2.heap.size; omega)]
        exact textCell Hr2.out hx
      have a3 : wr.cell? ⟨g3, k, none⟩ = some (encStr ids[k]) := by
        rw [hnx.cell (p := ⟨g3, k, none⟩) (by show g3 < w3.heap.size; omega)]
        exact textCell Hr3.out hx
      generalize hxx : ids[k] = x at *
      clear hx hxx hnx e3
      go_wp2_with fail
      go_quiet (fail)
      go_wp2_with fail
      go_roundw
      case rel => exact ⟨k + 1, by omega, by go_num, by simp, (below_drewN Hnx.out _)⟩
      case measure => simp [intOf]; omega
    · have hkD : D = k := by omega
      subst hkD
      obtain ⟨L1, HL1⟩ : ∃ L1, Hid (L1 = lay (lay L g1 (bl 0 (n / 4))) g2 (bl 0 (n / 4 + 1))) := ⟨_, rfl⟩
      have h1lt : g1 < w1.heap.size := (Hr1.out.lt g1 (by simp [Value.ownBlock])).2
      have h2lt : g2 < w2.heap.size := (Hr2.out.lt g2 (by simp [Value.ownBlock])).2
      have hg1' := Hg1.out
      have hg2' := Hg2.out
      have HBr : Hid (Below w2.heap.size w2 wr) := Hb3.out.trans (Hnx.out.mono hz3)
      have HB4 : Hid (Below w.heap.size w wr) := HB2.out.trans (HBr.out.mono (by omega))
      have HS0 : Hid (Step (fun _ => False) L w L1 wr) := Step.of_below' HB4.out (fun q hq => by rw [HL1.out, lay_other _ _ (by omega), lay_other _ _ (by omega)])
      have HQ1 : Hid (RowAt wr L1 (bl 0 (n / 4)) 9 1 (.slice (some ⟨g1, 0, none⟩) D D) D (ids.map encStr)) := (rowAt_texts (L := L1) Hr1.out (by rw [HL1.out, lay_other _ _ (by omega), lay_same])).keep (Step.of_below (p := fun _ => False) (Hb2.out.trans (HBr.out.mono hz2))) (fun h => h)
      have HQ2 : Hid (RowAt wr L1 (bl 0 ((n + 4) / 4)) 9 1 (.slice (some ⟨g2, 0, none⟩) D D) D (ids.map encStr)) := (rowAt_texts (L := L1) Hr2.out (by rw [HL1.out, lay_same, show (n + 4) / 4 = n / 4 + 1 by omega])).keep (Step.of_below (p := fun _ => False) HBr.out) (fun h => h)
      have HK2 := hide (HK.out.keep HS0.out (fun h => h))
      have HT2 := hide (HT.out.keep HS0.out (fun h => h) (fun _ _ h => h))
      clear hg1' hg2' Hr1 Hr2 Hr3 h1lt h2lt hnx
      go_wp2_with fail
      refine (keepTexts_any L1 gw n g1 D tv _ cur _ HK2.out HC.out HT2.out h4 (by omega) (by omega) HQ1.out).mono ?_
      rintro e w5 ⟨rfl, L3, tv3, hK3, hT3, hS3⟩
      have hQ3 : RowAt w5 L3 (bl 0 ((n + 4) / 4)) 9 1 (.slice (some ⟨g2, 0, none⟩) D D) D (ids.map encStr) := HQ2.out.keep hS3 (by simp [ktP, bl])
      have HK3 := hide hK3
      have HT3 := hide hT3
      have HS3 := hide hS3
      have HQ3 := hide hQ3
      have HC3 : Hid ((cur.setIfInBounds 23 tv3)[23]? = some tv3) := by
        have := (Array.getElem?_eq_some_iff.1 HC.out).1
        simp [Hid, this]
      clear hK3 hT3 hS3 hQ3
      go_wp2_with fail
      refine (keepTexts_any L3 gw (n + 4) g2 D tv3 _ _ _ HK3.out HC3.out HT3.out (by omega) (by omega) (by omega) HQ3.out).mono ?_
      rintro e w4 ⟨rfl, L4, tv4, hK4, hT4, hS4⟩
      have HF : Hid (∃ L' tv', BlkAt w4 L' (bl 2 0) gw (cur.setIfInBounds 23 tv') 38 ∧ TextsAt w4 L' tv' (n + 4 + 4) ∧ Step (wdP (n / 4)) L w L' w4) := by
        refine ⟨L4, tv4, ?_, hT4, ((HS0.out.mono (fun _ h => h.elim)).trans (HS3.out.mono ?_)).trans (hS4.mono ?_)⟩
        · rw [Array.setIfInBounds_setIfInBounds] at hK4; exact hK4
        · rintro l (h | h | h)
          · exact Or.inl ⟨_, Nat.le_refl _, h⟩
          · exact Or.inr (Or.inl h)
          · exact Or.inr (Or.inr h)
        · rintro l (h | h | h)
          · exact Or.inl ⟨_, by omega, h⟩
          · exact Or.inr (Or.inl h)
          · exact Or.inr (Or.inr h)
      clear hK4 hT4 hS4
      go_wp2_with fail
      go_ret
      exact ⟨rfl, HF.out⟩

/-- What World.waiting may turn. -/
def wwP (k : Nat) : Lab → Prop := fun l => (∃ j, k ≤ j ∧ l = bl 4 j) ∨ l = bl 3 0 ∨ l = bl 2 0

set_option maxRecDepth 100000 in
set_option maxHeartbeats 1000000 in
theorem wWaiting_any (L : Labs) (gw gp gx gy who who2 n : Nat) (mv : Value) (cur : Array Value) (M : Ag) (R : Rf) (w : World) (hK : BlkAt w L (bl 2 0) gw cur 38) (hc : cur[25]? = some mv) (hT : MapsAt w L mv n) (hn : n + 1 ≤ 8000000)
    (p0 : w.cell? ⟨gp, 0, none⟩ = some (.pointer (some ⟨gx, 0, none⟩))) (p1 : w.cell? ⟨gp, 1, none⟩ = some (.pointer (some ⟨gy, 0, none⟩))) (hA : AgentAt w L who gx M) (hR : RefAt w L who2 gy R) (hb : M.bs.length ≤ 120) (hb2 : R.rs.length ≤ 120) (hnl : R.ns.length ≤ 120)
    (hwt : ∀ x, waits M.bs x = cntP R.bs x) (hns : R.ns.Nodup) (hk : ∀ x, 0 < cntP R.bs x → x ∈ R.ns) (hl : ∀ x ∈ R.ns, x.length ≤ maxLen) :
    Calls Tryz.prog 45 #[.pointer (some ⟨gw, 0, none⟩), .pointer (some ⟨gp, 0, none⟩)] w fun e w' => e = .returned (.bool true) ∧ ∃ L' mv', BlkAt w' L' (bl 2 0) gw (cur.setIfInBounds 25 mv') 38 ∧ MapsAt w' L' mv' (n + 1 + 1) ∧ Step (wwP n) L w L' w' := by
  have hgpl := World.block_lt_of_cell? w _ p0
  have hfun : waits M.bs = cntP R.bs := funext hwt
  have HWt := hide (fun w (h : AgentAt w L who gx M) => waiting_any L who gx M w h hb)
  have HK := hide hK
  have HC := hide hc
  have HT := hide hT
  have HA := hide hA
  have HR := hide hR
  have P0 := hide p0
  have P1 := hide p1
  have Hns := hide hns
  have Hk := hide hk
  have Hl := hide hl
  rw [hfun] at HWt
  clear hK hc hT hA hR p0 p1 hwt hfun hns hk hl
  go_enter Tryz.func45, Tryz.ntmps45
  have p0 := P0.out
  go_wp2_with fail
  refine (HWt.out w HA.out).mono ?_
  rintro e w1 ⟨b1, n1, D1, rfl, hg1, hO1, hn1, hC1, hb1⟩
  have p0' : w1.cell? ⟨gp, 0, none⟩ = some (.pointer (some ⟨gx, 0, none⟩)) := (hb1.cell (p := ⟨gp, 0, none⟩) hgpl).trans P0.out
  have hz1 : w.heap.size ≤ w1.heap.size := hb1.size
  have HO1 := hide hO1
  have HC1 := hide hC1
  have Hg1 := hide hg1
  have Hb1 := hide hb1
  clear hg1 hO1 hn1 hC1 hb1 p0
  go_wp2_with fail
  refine (HWt.out w1 (HA.out.keep (Step.of_below (p := fun _ => False) Hb1.out) (fun _ h => h))).mono ?_
  rintro e w2 ⟨b2, n2, D2, rfl, hg2, hO2, hn2, hC2, hb2'⟩
  have hB2 : Below w.heap.size w w2 := Hb1.out.trans (hb2'.mono hz1)
  have p1' : w2.cell? ⟨gp, 1, none⟩ = some (.pointer (some ⟨gy, 0, none⟩)) := (hB2.cell (p := ⟨gp, 1, none⟩) hgpl).trans P1.out
  have HO2 := hide hO2
  have HC2 := hide hC2
  have Hg2 := hide hg2
  have Hb2 := hide hb2'
  have HB2 := hide hB2
  have hz2 : w1.heap.size ≤ w2.heap.size := hb2'.size
  have HP1 := hide p1'
  have HR2 := hide (HR.out.keep (Step.of_below (p := fun _ => False) hB2) (fun _ h => h))
  have HO12 := hide (om_below HO1.out hb2' HO1.out.lt)
  clear hg2 hO2 hn2 hC2 hb2' hB2 p0' p1'
  go_wp2_with fail
  refine (counts_any L who2 gp gy b1 n1 R D1 _ HP1.out HR2.out hb2 hnl HO12.out HC1.out Hl.out (size_counts HO12.out HC1.out Hns.out Hk.out Hl.out)).mono ?_
  rintro e w' ⟨rfl, hw⟩
  subst hw
  go_wp2_with fail
  refine (counts_any L who2 gp gy b2 n2 R D2 _ HP1.out HR2.out hb2 hnl HO2.out HC2.out Hl.out (size_counts HO2.out HC2.out Hns.out Hk.out Hl.out)).mono ?_
  rintro e w' ⟨rfl, hw⟩
  subst hw
  obtain ⟨L1, HL1⟩ : ∃ L1, Hid (L1 = lay (lay L b1 (bl 4 n)) b2 (bl 4 (n + 1))) := ⟨_, rfl⟩
  have h1lt : b1 < w1.heap.size := HO1.out.lt
  have hg1' := Hg1.out
  have hg2' := Hg2.out
  have HS0 : Hid (Step (fun _ => False) L w L1 w') := Step.of_below' HB2.out (fun q hq => by rw [HL1.out, lay_other _ _ (by omega), lay_other _ _ (by omega)])
  have HQ1 : Hid (OMapAt w' L1 (bl 4 n) Tryz.prog 9 (plainElem Tryz.prog 3) b1 n1 D1) := ⟨HO12.out, by rw [HL1.out, lay_other _ _ (by omega), lay_same]⟩
  have HQ2 : Hid (OMapAt w' L1 (bl 4 (n + 1)) Tryz.prog 9 (plainElem Tryz.prog 3) b2 n2 D2) := ⟨HO2.out, by rw [HL1.out, lay_same]⟩
  have HK2 := hide (HK.out.keep HS0.out (fun h => h))
  have HT2 := hide (HT.out.keep HS0.out (fun h => h) (fun _ _ h => h))
  clear hg1' hg2' h1lt
  go_wp2_with fail
  refine (keepMap_any L1 gw n b1 n1 D1 mv cur _ HK2.out HC.out HT2.out (by omega) HQ1.out).mono ?_
  rintro e w3 ⟨rfl, L3, mv3, hK3, hT3, hS3⟩
  have HK3 := hide hK3
  have HT3 := hide hT3
  have HS3 := hide hS3
  have HQ3 := hide (HQ2.out.keep hS3 (by simp [kmP, bl]))
  have HC3 : Hid ((cur.setIfInBounds 25 mv3)[25]? = some mv3) := by
    have := (Array.getElem?_eq_some_iff.1 HC.out).1
    simp [Hid, this]
  clear hK3 hT3 hS3
  go_wp2_with fail
  refine (keepMap_any L3 gw (n + 1) b2 n2 D2 mv3 _ _ HK3.out HC3.out HT3.out (by omega) HQ3.out).mono ?_
  rintro e w4 ⟨rfl, L4, mv4, hK4, hT4, hS4⟩
  have HF : Hid (∃ L' mv', BlkAt w4 L' (bl 2 0) gw (cur.setIfInBounds 25 mv') 38 ∧ MapsAt w4 L' mv' (n + 1 + 1) ∧ Step (wwP n) L w L' w4) := by
    refine ⟨L4, mv4, ?_, hT4, ((HS0.out.mono (fun _ h => h.elim)).trans (HS3.out.mono ?_)).trans (hS4.mono ?_)⟩
    · rw [Array.setIfInBounds_setIfInBounds] at hK4; exact hK4
    · rintro l (h | h | h)
      · exact Or.inl ⟨_, Nat.le_refl _, h⟩
      · exact Or.inr (Or.inl h)
      · exact Or.inr (Or.inr h)
    · rintro l (h | h | h)
      · exact Or.inl ⟨_, by omega, h⟩
      · exact Or.inr (Or.inl h)
      · exact Or.inr (Or.inr h)
  clear hK4 hT4 hS4
  go_wp2_with fail
  go_ret
  exact ⟨rfl, HF.out⟩
end Go.Proofs.YtojpjaifhjigfaaGreatDoor

/- is, (*pair).status. -/
namespace Go.Proofs.YtojpjaifhjigfaaGreatDoor
open Go.RowKit Go.Maps

theorem eql_same (A : Nat → Addr) (i : Nat) (w : World) : (binOp .eql 71 (ev A i) (ev A i)).run Tryz.prog w = .ok (.bool true) w := by
  obtain ⟨i1, hi1, hcmp⟩ := Option.map_eq_some_iff.1 comp121
  obtain ⟨j1, hj1, _⟩ := Option.map_eq_some_iff.1 size142
  exact run_eql_iface_ptr_same w (A i) Tryz.underlying71 Tryz.underlying260 hi1 hcmp hj1

set_option maxHeartbeats 400000 in
theorem is_ok (w : World) : Calls Tryz.prog 49 #[.nilIface, .int .i64 0] w fun e w' => e = .returned (.bool true) ∧ w' = w := by
  go_enter Tryz.func49, Tryz.ntmps49
  go_wp2
  go_ret
  exact ⟨rfl, rfl⟩

set_option maxHeartbeats 1000000 in
theorem is_err (A : Nat → Addr) (i : Nat) (w : World) (hS : Sents.Holds w 260 gl 11 A) (hi : i < 11) : Calls Tryz.prog 49 #[ev A i, .int .i64 ((i : Int) + 1)] w fun e w' => e = .returned (.bool true) ∧ Below w.heap.size w w' := by
  have hiI : (i : Int) < 11 := by omega
  have hne : ¬ ((i : Int) + 1 = 0) := by omega
  have HE := hide (errors_any A w hS)
  have hcell := errCell A w i hi
  have heq := fun w => eql_same A i w
  clear hS
  go_enter Tryz.func49, Tryz.ntmps49
  go_wp2_with fail
  refine HE.out.mono ?_
  rintro e w' ⟨rfl, rfl⟩
  go_wp2_with fail
  go_ret
  exact ⟨rfl, (Below.refl _ _).alloc (Nat.le_refl _) _⟩

set_option maxRecDepth 100000 in
set_option maxHeartbeats 1000000 in
theorem pStatus_core (gp gx gy : Nat) (id : List UInt8) (x y n : Int) (ee : Value) (w : World)
    (p0 : w.cell? ⟨gp, 0, none⟩ = some (.pointer (some ⟨gx, 0, none⟩))) (p1 : w.cell? ⟨gp, 1, none⟩ = some (.pointer (some ⟨gy, 0, none⟩)))
    (h1 : Calls Tryz.prog 34 #[.pointer (some ⟨gx, 0, none⟩), encStr id] w fun e w' => e = .returned (.tuple #[.agg #[.int .i64 x, .int .i64 y], ee]) ∧ Below w.heap.size w w')
    (h2 : ∀ w1, Below w.heap.size w w1 → Calls Tryz.prog 83 #[.pointer (some ⟨gy, 0, none⟩), encStr id] w1 fun e w' => e = .returned (.tuple #[.agg #[.int .i64 x, .int .i64 y], .int .i64 n]) ∧ Below w1.heap.size w1 w')
    (h3 : ∀ w1, Below w.heap.size w w1 → Calls Tryz.prog 49 #[ee, .int .i64 n] w1 fun e w' => e = .returned (.bool true) ∧ Below w1.heap.size w1 w') :
    Calls Tryz.prog 46 #[.pointer (some ⟨gp, 0, none⟩), encStr id] w fun e w' => e = .returned (.bool true) ∧ Below w.heap.size w w' := by
  have hgpl := World.block_lt_of_cell? w _ p0
  have P1 := hide p1
  have H1 := hide h1
  have H2 := hide h2
  have H3 := hide h3
  clear h1 h2 h3 p1
  go_enter Tryz.func46, Tryz.ntmps46
  go_wp2_with fail
  refine H1.out.mono ?_
  rintro e w1 ⟨rfl, hb1⟩
  have p1' : w1.cell? ⟨gp, 1, none⟩ = some (.pointer (some ⟨gy, 0, none⟩)) := (hb1.cell (p := ⟨gp, 1, none⟩) hgpl).trans P1.out
  have hz1 : w.heap.size ≤ w1.heap.size := hb1.size
  have hgl1 := World.block_lt_of_cell? w1 _ p1'
  have HB1 := hide (fun o => hb1.alloc hz1 o)
  clear hb1
  go_wp2_with fail
  refine (H2.out _ (HB1.out _)).mono ?_
  rintro e w2 ⟨rfl, hb2⟩
  have hK5 : Blk w2 w1.heap.size #[.int .i64 x, .int .i64 y] 82 := (Blk.new w1 _ _).below hb2 (by simp)
  have hz2 : w1.heap.size + 1 ≤ w2.heap.size := by have := hb2.size; simpa using this
  have hB2 : Below w.heap.size w w2 := (HB1.out _).trans (hb2.mono (by simp; omega))
  have HK5 := hide hK5
  have HB2 := hide (fun o => hB2.alloc hB2.size o)
  clear hb2 hK5 p1'
  go_wp2_with fail
  refine (H3.out _ (HB2.out _)).mono ?_
  rintro e w3 ⟨rfl, hb3⟩
  have hK5' : Blk w3 w1.heap.size #[.int .i64 x, .int .i64 y] 82 := (HK5.out.alloc _).below hb3 (by simp; omega)
  have hK7 : Blk w3 w2.heap.size #[.int .i64 x, .int .i64 y] 82 := (Blk.new w2 _ _).below hb3 (by simp)
  have a0 : w3.cell? ⟨w1.heap.size, 0, none⟩ = some (.int .i64 x) := hK5'.cell 0
  have a1 : w3.cell? ⟨w1.heap.size, 1, none⟩ = some (.int .i64 y) := hK5'.cell 1
  have b0 : w3.cell? ⟨w2.heap.size, 0, none⟩ = some (.int .i64 x) := hK7.cell 0
  have b1 : w3.cell? ⟨w2.heap.size, 1, none⟩ = some (.int .i64 y) := hK7.cell 1
  have HF : Hid (Below w.heap.size w w3) := (HB2.out _).trans (hb3.mono (by simp; omega))
  clear hb3 hK5' hK7
  go_wp2_with fail
  go_ret
  exact ⟨by simp, HF.out⟩

theorem pStatus_any (A : Nat → Addr) (L : Labs) (gp gx gy who who2 : Nat) (M : Ag) (R : Rf) (id : List UInt8) (w : World) (hS : Sents.Holds w 260 gl 11 A)
    (p0 : w.cell? ⟨gp, 0, none⟩ = some (.pointer (some ⟨gx, 0, none⟩))) (p1 : w.cell? ⟨gp, 1, none⟩ = some (.pointer (some ⟨gy, 0, none⟩))) (hA : AgentAt w L who gx M) (hR : RefAt w L who2 gy R) (hb : M.bs.length ≤ 120) (hbs : R.bs = M.bs) :
    Calls Tryz.prog 46 #[.pointer (some ⟨gp, 0, none⟩), encStr id] w fun e w' => e = .returned (.bool true) ∧ Below w.heap.size w w' := by
  have hrl : R.rs.length ≤ 120 := by
    have := congrArg List.length hbs
    simp [Rf.bs] at this
    omega
  rcases findId_cases M.bs id with ⟨hid, _⟩ | ⟨i, b, hid, hbi, _⟩
  · exact pStatus_core gp gx gy id 0 0 5 (ev A 4) w p0 p1 (status_none A L who gx M id w hS hA hb hid)
      (fun w1 hb1 => refStatus_none L who2 gy R id w1 (hR.keep (Step.of_below (p := fun _ => False) hb1) (fun _ h => h)) hrl (by rw [hbs]; exact hid))
      (fun w1 hb1 => is_err A 4 w1 (hS.below hb1) (by omega))
  · obtain ⟨r, hr⟩ : ∃ r, R.rs[i]? = some r := by
      rw [← hbs] at hbi
      simp only [Rf.bs, List.getElem?_map, Option.map_eq_some_iff] at hbi
      obtain ⟨r, h, _⟩ := hbi
      exact ⟨r, h⟩
    have hrb : r.b = b := by
      have := Rf.get hr
      rw [hbs, hbi] at this
      exact (Option.some.inj this).symm
    exact pStatus_core gp gx gy id b.st b.fl 0 .nilIface w p0 p1 (status_some L who gx M id i b w hA hb hid hbi)
      (fun w1 hb1 => hrb ▸ refStatus_some L who2 gy R id i r w1 (hR.keep (Step.of_below (p := fun _ => False) hb1) (fun _ h => h)) hrl (by rw [hbs]; exact hid) hr)
      (fun w1 _ => (is_ok w1).mono (by rintro e w' ⟨rfl, rfl⟩; exact ⟨rfl, Below.refl _ _⟩))
end Go.Proofs.YtojpjaifhjigfaaGreatDoor

/- over: the walk. -/
namespace Go.Proofs.YtojpjaifhjigfaaGreatDoor
open Go.RowKit Go.Maps

set_option maxRecDepth 100000 in
set_option maxHeartbeats 4000000 in
theorem refOver_any (L : Labs) (who g d p : Nat) (R : Rf) (o : Out) (r : RBat) (good : Bool) (draw : Int) (w : World) (h : RefAt w L who g R) (hk : OverOk R d p o r draw) :
    Calls Tryz.prog 122 #[.pointer (some ⟨g, 0, none⟩), .int .i64 d, .bool good, .int .i64 draw] w fun e w' => e = .returned (.tuple #[]) ∧ TurnedR w L who g (R.overed d p o r good draw) w' := by
  obtain ⟨nv, qv, bv, dv, la, lk, h⟩ := h
  obtain ⟨gl, rfl, hF⟩ := h.focus hk.ho
  obtain ⟨ca, ck, hC⟩ := hF.cells
  have hpl := (List.getElem?_eq_some_iff.1 hk.hr).1
  have hdl := (List.getElem?_eq_some_iff.1 hk.ho).1
  obtain ⟨ta, tc, rfl, _⟩ := h.tk.shape
  obtain ⟨gt, rfl, hgt, hlabt, hct, hft⟩ := h.tk.head (by omega)
  have c15 : w.cell? ⟨g, 15, none⟩ = some (.slice (some ⟨gl, 0, none⟩) R.c.d.toNat lk) := h.blk.1.cell 15
  have c13 : w.cell? ⟨g, 13, none⟩ = some (.slice (some ⟨gt, 0, none⟩) R.rs.length tc) := h.blk.1.cell 13
  have c3 : w.cell? ⟨g, 3, none⟩ = some (.int .i64 R.c.at') := h.blk.1.cell 3
  have l7 : w.cell? ⟨gl, d * 9 + 7, none⟩ = some (.int .i64 (p : Int)) := by have := hC.c7; rw [hk.way] at this; exact this
  have lf := hC.fz
  have t4 : w.cell? ⟨gt, p * 8 + 4, none⟩ = some (.int .i64 r.b.st) := hct _ _ (flat_cell RBat.cells 8 RBat.cells_length hk.hr (by omega) rfl)
  have t5 : w.cell? ⟨gt, p * 8 + 5, none⟩ = some (.int .i64 r.b.fl) := hct _ _ (flat_cell RBat.cells 8 RBat.cells_length hk.hr (by omega) rfl)
  have hgl := hC.lt
  have hggl := h.blk.1.lt
  have ngl : g ≠ gl := fun e => by have h1 := hC.lab; rw [← e, h.blk.2] at h1; simp at h1
  have ngt : g ≠ gt := fun e => by rw [← e, h.blk.2] at hlabt; simp at hlabt
  have nlt : gl ≠ gt := fun e => by rw [← e, hC.lab] at hlabt; simp at hlabt
  have hdI : (d : Int) < (R.c.d.toNat : Int) := by have := h.ln; omega
  have hpI : (p : Int) < (R.rs.length : Int) := by omega
  obtain ⟨hA1, hS1⟩ := h.lput (o' := { o with way := -1 }) (v := .int .i64 (-1)) hk.ho (j := 7) (by omega) rfl (fun _ => rfl)
  have Hk := hide hk
  generalize hn : R.rs.length = n at *
  have Hn := hide hn
  have hf0 := hk.f0
  have hf1 := hk.f1
  have hcba := hk.c.ba
  have hcca := hk.c.ca
  have hp1 := hk.p1
  have hp2 := hk.p2
  have hdr := hk.dr
  have hn0 := hk.n0
  have hn1 := hk.n1
  have hdl2 := hk.dl
  have hm0 : 0 ≤ draw % (3 * r.pa - R.c.ba + 1) := Int.emod_nonneg _ (by omega)
  have hm1 : draw % (3 * r.pa - R.c.ba + 1) < 3 * r.pa - R.c.ba + 1 := Int.emod_lt_of_pos _ (by omega)
  have hpne : ¬ (3 * r.pa - R.c.ba + 1 = 0) := by omega
  have hnpb := nextPause_bd hk.c (draw := draw) hk.p1
  cases good
  · obtain ⟨hA2, hS2⟩ := hA1.put (r' := { r with b := { r.b with fl := r.b.fl + 1 } }) (v := .int .i64 (r.b.fl + 1)) hk.hr (j := 5) (by omega) rfl
    have HA2 := hide hA2
    have HS2 : Hid (Step (ofP who) L w L _) := hS1.trans hS2
    clear h hF hC hct hk hA1 hS1 hA2 hS2
    go_enter Tryz.func122, Tryz.ntmps122
    go_upto_region 6 with fail
    generalize hX : World.setCell (World.setCell w _ _) _ _ = X at *
    have x3 : X.cell? ⟨g, 3, none⟩ = some (.int .i64 R.c.at') := HA2.out.blk.1.cell 3
    have HrX : Hid ((R.rs.set p { r with b := { r.b with fl := r.b.fl + 1 } })[p]? = some { r with b := { r.b with fl := r.b.fl + 1 } }) := by show _ = _; rw [List.getElem?_set_self (by rw [Hn.out]; omega)]
    obtain ⟨_, hgt2, _, hct2, hfz2⟩ := HA2.out.bat HrX.out
    have x5 : X.cell? ⟨gt, p * 8 + 5, none⟩ = some (.int .i64 (r.b.fl + 1)) := hct2 5 _ rfl
    have x4 : X.cell? ⟨gt, p * 8 + 4, none⟩ = some (.int .i64 r.b.st) := hct2 4 _ rfl
    have xf := hfz2
    clear hX hct2 hfz2 c15 c13 c3 l7 lf t4 t5
    obtain ⟨da, dk, rfl, _⟩ := HA2.out.dd.shape
    have x14 : X.cell? ⟨g, 14, none⟩ = some (.slice da R.dead.length dk) := HA2.out.blk.1.cell 14
    have hdl3 : (R.dead.length : Int) ≤ 1000 := by omega
    obtain ⟨i0, hi, hz0, hz1, hz2⟩ := info_parts infoInt
    have HlenY : Hid (∀ r' : RBat, (R.rs.set p r').length = n) := fun r' => by rw [List.length_set, Hn.out]
    obtain ⟨st3, hst3⟩ : ∃ st3 : Int, st3 = if r.b.fl + 1 = R.c.at' then 3 else r.b.st := ⟨_, rfl⟩
    obtain ⟨dd3, hdd3⟩ : ∃ dd3 : List Nat, dd3 = if r.b.fl + 1 = R.c.at' then R.dead ++ [p] else R.dead := ⟨_, rfl⟩
    have Hst3 := hide hst3
    have Hdd3 := hide hdd3
    clear hst3 hdd3
    go_quiet (fail)
    go_upto_if 51 with fail
    go_cut [] (fun wx => ∃ L3 dv3, RfAt wx L3 who g { R with ls := R.ls.set d { o with way := -1 }, rs := R.rs.set p { r with b := { r.b with fl := r.b.fl + 1, st := st3 } }, dead := dd3 } nv qv (.slice (some ⟨gt, 0, none⟩) n tc) dv3 (some ⟨gl, 0, none⟩) lk ∧ Step (ofP who) L w L3 wx)
    case first =>
      by_cases hat : r.b.fl + 1 = R.c.at'
      · have Hat := hide hat
        have hatb : (r.b.fl + 1 == R.c.at') = true := by simp [hat]
        have hatd : decide (r.b.fl + 1 = R.c.at') = true := by simp [hat]
        clear hat
        generalize hY : World.drewN X _ = YY at *
        have HY : Hid (RfAt YY L who g { R with ls := R.ls.set d { o with way := -1 }, rs := R.rs.set p { r with b := { r.b with fl := r.b.fl + 1 } } } nv qv (.slice (some ⟨gt, 0, none⟩) n tc) (.slice da R.dead.length dk) (some ⟨gl, 0, none⟩) lk) := by
          rw [← hY]
          exact HA2.out.keep (Step.drewN (p := fun _ => False) L X _) (fun _ h => h)
        have HSY : Hid (Step (ofP who) L w L YY) := by rw [← hY]; exact HS2.out.trans (Step.drewN L X _)
        have HU7 := hide (HY.out.put (r' := ({ r with b := { r.b with fl := r.b.fl + 1, st := 3 } } : RBat)) (v := .int .i64 3) HrX.out (j := 4) (by omega) rfl)
        have y4 : YY.cell? ⟨gt, p * 8 + 4, none⟩ = some (.int .i64 r.b.st) := by rw [← hY]; exact x4
        have y14 : YY.cell? ⟨g, 14, none⟩ = some (.slice da R.dead.length dk) := by rw [← hY]; exact x14
        have yf : ∀ i, YY.frozen? ⟨gt, i, none⟩ = false := by rw [← hY]; exact xf
        have yg : ∀ i, YY.frozen? ⟨g, i, none⟩ = false := fun i => HY.out.blk.1.frozen i
        have hgY : g < YY.heap.size := HY.out.blk.1.lt
        clear hY x3 x5 x4 xf x14
        go_wp2_with (first
          | (at_builtin; refine wpList_append_lies _ rfl _ _ 51 rfl 0 3 i0 (.int .i64 0) 1 8 Tryz.underlying51 hi hz0 hz1 hz2 rfl (by decide) (.slice da R.dead.length dk) R.dead.length (ints R.dead) rfl (HU7.out.1.dd.1.alloc _) ⟨YY.heap.size, 0, none⟩ 1 1 [.int .i64 (p : Int)] rfl rfl (World.news_of_block (cs := #[.int .i64 (p : Int)]) (t := 3) (fr := (0, 0)) (obj_new (by simp [World.setCell]) _)) (by simp [Value.oneCell']) (by decide) (by unfold maxLen; omega) (by omega) (Nat.zero_le _) (YY.heap.size + 1) (by simp [World.setCell]) ?_; intro g2 cap2 w2 hown2 hg2 hat2 hlt2; have HBk := hide (Blk.grown (HU7.out.1.blk.1.alloc _) hg2 (fun e => by have := HU7.out.1.dd.2 g e.symm; rw [HU7.out.1.blk.2] at this; simp at this)); have z14 := HBk.out.cell 14; have zf := HBk.out.frozen 14; simp [refCells] at z14; have HU8 := hide (rdied_step (p := p) HU7.out.1 hown2 hg2 (by simpa [World.setCell] using hat2)); clear hown2 hg2 hat2; simp only [Act.put, List.setIfInBounds_toArray, List.set_cons_succ, List.set_cons_zero])
          | fail)
        go_meet
        obtain ⟨L3, dv3, h1, h2⟩ := HU8.out
        refine ⟨L3, dv3, ?_, (HSY.out.trans HU7.out.2).trans h2⟩
        rw [Hst3.out, Hdd3.out, if_pos Hat.out, if_pos Hat.out]
        simp only [List.set_set] at h1
        exact h1
      · have Hat := hide hat
        have hatb : (r.b.fl + 1 == R.c.at') = false := by simp [hat]
        have hatd : decide (r.b.fl + 1 = R.c.at') = false := by simp [hat]
        clear hat
        go_wp2_with fail
        go_meet
        refine ⟨L, .slice da R.dead.length dk, ?_, ?_⟩
        · rw [Hst3.out, Hdd3.out, if_neg Hat.out, if_neg Hat.out]
          exact HA2.out.keep (Step.drewN (p := fun _ => False) L X _) (fun _ h => h)
        · exact HS2.out.trans (Step.drewN L X _)
    case rest =>
    obtain ⟨L3, dv3, hY0, hSY0⟩ := hcut
    have HY := hide hY0
    have HSY := hide hSY0
    have HrY : Hid ((R.rs.set p { r with b := { r.b with fl := r.b.fl + 1, st := st3 } })[p]? = some { r with b := { r.b with fl := r.b.fl + 1, st := st3 } }) := by show _ = _; rw [List.getElem?_set_self (by rw [Hn.out]; omega)]
    generalize hwc0 : wc = YY at *
    clear hwc0 hY0 hSY0 x3 x5 x4 xf x14
    obtain ⟨_, hgt3, _, hct3, hfz3⟩ := HY.out.bat HrY.out
    have y4 : YY.cell? ⟨g, 4, none⟩ = some (.int .i64 R.c.ba) := HY.out.blk.1.cell 4
    have y5 : YY.cell? ⟨g, 5, none⟩ = some (.int .i64 R.c.ca) := HY.out.blk.1.cell 5
    have y6 : YY.cell? ⟨gt, p * 8 + 6, none⟩ = some (.int .i64 r.pa) := hct3 6 _ rfl
    have yf := hfz3
    have HU9 := hide (HY.out.put (r' := ({ b := { r.b with fl := r.b.fl + 1, st := st3 }, pa := nextPause R.c r.pa draw, af := r.af } : RBat)) (v := .int .i64 (nextPause R.c r.pa draw)) HrY.out (j := 6) (by omega) rfl)
    clear hct3 hfz3
    go_upto_region 9 with fail
    go_cut [] (fun wx => RfAt wx L3 who g { ({ R with ls := R.ls.set d { o with way := -1 }, rs := R.rs.set p { r with b := { r.b with fl := r.b.fl + 1, st := st3 } }, dead := dd3 } : Rf) with rs := ({ R with ls := R.ls.set d { o with way := -1 }, rs := R.rs.set p { r with b := { r.b with fl := r.b.fl + 1, st := st3 } }, dead := dd3 } : Rf).rs.set p ({ b := { r.b with fl := r.b.fl + 1, st := st3 }, pa := nextPause R.c r.pa draw, af := r.af } : RBat) } nv qv (.slice (some ⟨gt, 0, none⟩) n tc) dv3 (some ⟨gl, 0, none⟩) lk ∧ Step (ofP who) L3 YY L3 wx)
    case first =>
      unfold nextPause at HU9
      go_region
      all_goals
        go_wp2_with fail
        go_meet
        exact ⟨HU9.out.1.keep (Step.drew (p := fun _ => False) L3 _) (fun _ h => h), HU9.out.2.trans (Step.drew L3 _)⟩
    case rest =>
    obtain ⟨hZ, hSZ⟩ := hcut
    have HrZ : Hid ((({ R with ls := R.ls.set d { o with way := -1 }, rs := R.rs.set p { r with b := { r.b with fl := r.b.fl + 1, st := st3 } }, dead := dd3 } : Rf).rs.set p ({ b := { r.b with fl := r.b.fl + 1, st := st3 }, pa := nextPause R.c r.pa draw, af := r.af } : RBat))[p]? = some ({ b := { r.b with fl := r.b.fl + 1, st := st3 }, pa := nextPause R.c r.pa draw, af := r.af } : RBat)) := by
      show _ = _
      rw [List.getElem?_set_self (List.getElem?_eq_some_iff.1 HrY.out).1]
    obtain ⟨_, hgt4, _, hct4, hfz4⟩ := hZ.bat HrZ.out
    have z16 : wc.cell? ⟨g, 16, none⟩ = some (.int .i64 R.time) := hZ.blk.1.cell 16
    have z6 : wc.cell? ⟨gt, p * 8 + 6, none⟩ = some (.int .i64 (nextPause R.c r.pa draw)) := hct4 6 _ rfl
    have z7 : wc.cell? ⟨gt, p * 8 + 7, none⟩ = some (.int .i64 r.af) := hct4 7 _ rfl
    have zf := hfz4
    have HU10 := hide (RfAt.put (r' := { ({ b := { r.b with fl := r.b.fl + 1, st := st3 }, pa := nextPause R.c r.pa draw, af := r.af } : RBat) with af := R.time + nextPause R.c r.pa draw }) (v := .int .i64 (R.time + nextPause R.c r.pa draw)) hZ HrZ.out (j := 7) (by omega) rfl)
    have HSZ := hide hSZ
    generalize hwc : wc = ZZ at *
    clear hwc hZ hSZ hct4 hfz4 y4 y5 y6 yf HU9
    go_upto_region 10 with fail
    go_cut [] (fun wx => RfAt wx L3 who g { ({ R with ls := R.ls.set d { o with way := -1 }, rs := R.rs.set p { r with b := { r.b with fl := r.b.fl + 1, st := st3 } }, dead := dd3 } : Rf) with rs := ({ R with ls := R.ls.set d { o with way := -1 }, rs := R.rs.set p { r with b := { r.b with fl := r.b.fl + 1, st := st3 } }, dead := dd3 } : Rf).rs.set p { ({ b := { r.b with fl := r.b.fl + 1, st := st3 }, pa := nextPause R.c r.pa draw, af := r.af } : RBat) with af := R.time + nextPause R.c r.pa draw } } nv qv (.slice (some ⟨gt, 0, none⟩) n tc) dv3 (some ⟨gl, 0, none⟩) lk ∧ Step (ofP who) L3 ZZ L3 wx)
    case first =>
      generalize hnp : nextPause R.c r.pa draw = np at *
      go_region
      all_goals
        go_wp2_with fail
        go_meet
        have := HU10.out.1
        simp only [List.set_set] at this
        refine ⟨?_, HU10.out.2.trans (Step.drew L3 _)⟩
        simp only [List.set_set]
        exact this.keep (Step.drew (p := fun _ => False) L3 _) (fun _ h => h)
    case rest =>
    obtain ⟨hQ, hSQ⟩ := hcut
    have HRes := hide (over_result L L3 who g d p gl R _ o r false draw nv qv _ dv3 lk w wc hQ ((HSY.out.trans HSZ.out).trans hSQ) Hk.out (by simp [RBat.overed, Hst3.out, Hdd3.out, List.set_set]))
    clear hQ hSQ z16 z6 z7 zf HU10
    go_wp2_with fail
    refine HRes.out.mono ?_
    rintro e w' ⟨rfl, hx⟩
    have Hx := hide hx
    clear hx
    go_wp2_with fail
    first | go_end0 | refine bodyPost_ret (results_none rfl _ _ _) rfl ?_
    exact ⟨rfl, Hx.out⟩
  · obtain ⟨hA2, hS2⟩ := hA1.put (r' := { r with b := { r.b with st := 2 } }) (v := .int .i64 2) hk.hr (j := 4) (by omega) rfl
    have HRes := hide (over_result L L who g d p gl R _ o r true draw nv qv _ dv lk w _ hA2 (hS1.trans hS2) hk (by simp [RBat.overed]))
    clear h hF hC hct hk hA1 hS1 hA2 hS2
    go_enter Tryz.func122, Tryz.ntmps122
    go_wp2_with fail
    refine HRes.out.mono ?_
    rintro e w' ⟨rfl, hx⟩
    have Hx := hide hx
    clear hx
    go_wp2_with fail
    first | go_end0 | refine bodyPost_ret (results_none rfl _ _ _) rfl ?_
    exact ⟨rfl, Hx.out⟩
end Go.Proofs.YtojpjaifhjigfaaGreatDoor
