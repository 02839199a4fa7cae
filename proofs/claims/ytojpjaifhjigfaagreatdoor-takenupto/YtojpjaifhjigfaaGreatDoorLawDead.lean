/- (*World).dead, (*World).waiting, (*pair).status: what is asked of a pair. (No batch has died.) -/
import Derived.Test.YtojpjaifhjigfaaGreatDoorLawCounts
namespace Go.Proofs.YtojpjaifhjigfaaGreatDoor
open Go.RowKit Go.Maps

/-- What World.dead may turn. -/
def wdP (k : Nat) : Lab → Prop := fun l => (∃ j, k ≤ j ∧ l = bl 0 j) ∨ l = bl 1 0 ∨ l = bl 2 0

theorem rowAt_texts {w w' : World} {L : Labs} {l : Lab} {g n : Nat} {xs : List Value} (h : w'.ownsRow w.heap.size 9 1 (.slice (some ⟨g, 0, none⟩) n n) n xs) (hl : L g = l) : RowAt w' L l 9 1 (.slice (some ⟨g, 0, none⟩) n n) n xs := by
  refine ⟨⟨h.1, ?_⟩, fun q hq => ?_⟩
  · rcases h.2 with ⟨e, _⟩ | ⟨q, c, cur, q1, q2, q3⟩
    · cases e
    · exact Or.inr ⟨q, c, cur, q1, Nat.zero_le _, q3⟩
  · obtain rfl : g = q := by simpa [Value.ownBlock] using hq
    exact hl

set_option maxRecDepth 100000 in
set_option maxHeartbeats 1000000 in
theorem wDead_any (L : Labs) (gw gp gx gy who who2 n : Nat) (tv : Value) (cur : Array Value) (M : Ag) (R : Rf) (w : World) (hK : BlkAt w L (bl 2 0) gw cur 38) (hc : cur[23]? = some tv) (hT : TextsAt w L tv n) (h4 : n % 4 = 0) (hn : n + 4 ≤ 8000000)
    (p0 : w.cell? ⟨gp, 0, none⟩ = some (.pointer (some ⟨gx, 0, none⟩))) (p1 : w.cell? ⟨gp, 1, none⟩ = some (.pointer (some ⟨gy, 0, none⟩))) (hA : AgentAt w L who gx M) (hR : RefAt w L who2 gy R) (hd : M.dead = []) (hd2 : R.dead = []) (hb : M.bs.length ≤ 120) :
    Calls Tryz.prog 44 #[.pointer (some ⟨gw, 0, none⟩), .pointer (some ⟨gp, 0, none⟩)] w fun e w' => e = .returned (.bool true) ∧ ∃ L' tv', BlkAt w' L' (bl 2 0) gw (cur.setIfInBounds 23 tv') 38 ∧ TextsAt w' L' tv' (n + 4 + 4) ∧ Step (wdP (n / 4)) L w L' w' := by
  have hids : M.ids = [] := by simp [Ag.ids, hd]
  have hgpl := World.block_lt_of_cell? w _ p0
  have H1 := hide (dead_any L who gx M w hA (by rw [hd]; intro p hp; cases hp) hb (by rw [hd]; simp))
  have HK := hide hK
  have HC := hide hc
  have HT := hide hT
  have HA := hide hA
  have HR := hide hR
  have P0 := hide p0
  have P1 := hide p1
  have Hd := hide hd
  have Hd2 := hide hd2
  rw [hids] at H1
  clear hK hc hT hA hR hd hd2 p0 p1
  go_enter Tryz.func44, Tryz.ntmps44
  have p0 := P0.out
  go_wp2_with fail
  refine H1.out.mono ?_
  rintro e w1 ⟨g1, rfl, hg1, hr1, hb1⟩
  have H2 := hide (dead_any L who gx M w1 (HA.out.keep (Step.of_below (p := fun _ => False) hb1) (fun _ h => h)) (by rw [Hd.out]; intro p hp; cases hp) hb (by rw [Hd.out]; simp))
  rw [hids] at H2
  have p0' : w1.cell? ⟨gp, 0, none⟩ = some (.pointer (some ⟨gx, 0, none⟩)) := (hb1.cell (p := ⟨gp, 0, none⟩) hgpl).trans P0.out
  have hz1 : w.heap.size ≤ w1.heap.size := hb1.size
  have Hg1 := hide hg1
  have Hr1 := hide hr1
  have Hb1 := hide hb1
  clear hg1 hr1 hb1 p0 H1
  go_wp2_with fail
  refine H2.out.mono ?_
  rintro e w2 ⟨g2, rfl, hg2, hr2, hb2⟩
  have hB2 : Below w.heap.size w w2 := Hb1.out.trans (hb2.mono hz1)
  have p1' : w2.cell? ⟨gp, 1, none⟩ = some (.pointer (some ⟨gy, 0, none⟩)) := (hB2.cell (p := ⟨gp, 1, none⟩) hgpl).trans P1.out
  have Hg2 := hide hg2
  have Hr2 := hide hr2
  have Hb2 := hide hb2
  have HB2 := hide hB2
  have hz2 : w1.heap.size ≤ w2.heap.size := hb2.size
  clear hg2 hr2 hb2 hB2 p0' H2
  go_wp2_with fail
  refine (refDied_nil L who2 gy R _ (HR.out.keep (Step.of_below (p := fun _ => False) HB2.out) (fun _ h => h)) Hd2.out).mono ?_
  rintro e w' ⟨rfl, rfl⟩
  go_wp2_with fail
  refine wp_loop_rounds 1 ?_
  rw [rounds_succ]
  obtain ⟨L1, HL1⟩ : ∃ L1, Hid (L1 = lay (lay L g1 (bl 0 (n / 4))) g2 (bl 0 (n / 4 + 1))) := ⟨_, rfl⟩
  have h1lt : g1 < w1.heap.size := (Hr1.out.lt g1 (by simp [Value.ownBlock])).2
  have hg1' := Hg1.out
  have hg2' := Hg2.out
  have HS0 : Hid (Step (fun _ => False) L w L1 w') := Step.of_below' HB2.out (fun q hq => by rw [HL1.out, lay_other _ _ (by omega), lay_other _ _ (by omega)])
  have HQ1 : Hid (RowAt w' L1 (bl 0 (n / 4)) 9 1 (.slice (some ⟨g1, 0, none⟩) 0 0) 0 []) := (rowAt_texts (L := L1) Hr1.out (by rw [HL1.out, lay_other _ _ (by omega), lay_same])).keep (Step.of_below (p := fun _ => False) Hb2.out) (fun h => h)
  have HQ2 : Hid (RowAt w' L1 (bl 0 ((n + 4) / 4)) 9 1 (.slice (some ⟨g2, 0, none⟩) 0 0) 0 []) := rowAt_texts Hr2.out (by rw [HL1.out, lay_same, show (n + 4) / 4 = n / 4 + 1 by omega])
  have HK2 := hide (HK.out.keep HS0.out (fun h => h))
  have HT2 := hide (HT.out.keep HS0.out (fun h => h) (fun _ _ h => h))
  clear hg1' hg2' Hr1 Hr2 h1lt
  go_wp2_with fail
  refine (keepTexts_any L1 gw n g1 0 tv [] cur _ HK2.out HC.out HT2.out h4 (by omega) (by omega) HQ1.out).mono ?_
  rintro e w3 ⟨rfl, L3, tv3, hK3, hT3, hS3⟩
  have hQ3 : RowAt w3 L3 (bl 0 ((n + 4) / 4)) 9 1 (.slice (some ⟨g2, 0, none⟩) 0 0) 0 [] := HQ2.out.keep hS3 (by simp [ktP, bl])
  have HK3 := hide hK3
  have HT3 := hide hT3
  have HS3 := hide hS3
  have HQ3 := hide hQ3
  have HC3 : Hid ((cur.setIfInBounds 23 tv3)[23]? = some tv3) := by
    have := (Array.getElem?_eq_some_iff.1 HC.out).1
    simp [Hid, this]
  clear hK3 hT3 hS3 hQ3
  go_wp2_with fail
  refine (keepTexts_any L3 gw (n + 4) g2 0 tv3 [] _ _ HK3.out HC3.out HT3.out (by omega) (by omega) (by omega) HQ3.out).mono ?_
  rintro e w4 ⟨rfl, L4, tv4, hK4, hT4, hS4⟩
  have HF : Hid (∃ L' tv', BlkAt w4 L' (bl 2 0) gw (cur.setIfInBounds 23 tv') 38 ∧ TextsAt w4 L' tv' (n + 4 + 4) ∧ Step (wdP (n / 4)) L w L' w4) := by
    refine ⟨L4, tv4, ?_, hT4, ((HS0.out.mono (fun _ h => h.elim)).trans (HS3.out.mono ?_)).trans (hS4.mono ?_)⟩
    · rw [Array.setIfInBounds_setIfInBounds] at hK4; exact hK4
    · rintro l (h | h | h)
      · exact Or.inl ⟨_, Nat.le_refl _, h⟩
      · exact Or.inr (Or.inl h)
      · exact Or.inr (Or.inr h)
    · rintro l (h | h | h)
      · exact Or.inl ⟨_, by omega, h⟩
      · exact Or.inr (Or.inl h)
      · exact Or.inr (Or.inr h)
  clear hK4 hT4 hS4
  go_wp2_with fail
  go_ret
  exact ⟨rfl, HF.out⟩

/-- What World.waiting may turn. -/
def wwP (k : Nat) : Lab → Prop := fun l => (∃ j, k ≤ j ∧ l = bl 4 j) ∨ l = bl 3 0 ∨ l = bl 2 0

set_option maxRecDepth 100000 in
set_option maxHeartbeats 1000000 in
theorem wWaiting_any (L : Labs) (gw gp gx gy who who2 n : Nat) (mv : Value) (cur : Array Value) (M : Ag) (R : Rf) (w : World) (hK : BlkAt w L (bl 2 0) gw cur 38) (hc : cur[25]? = some mv) (hT : MapsAt w L mv n) (hn : n + 1 ≤ 8000000)
    (p0 : w.cell? ⟨gp, 0, none⟩ = some (.pointer (some ⟨gx, 0, none⟩))) (p1 : w.cell? ⟨gp, 1, none⟩ = some (.pointer (some ⟨gy, 0, none⟩))) (hA : AgentAt w L who gx M) (hR : RefAt w L who2 gy R) (hb : M.bs.length ≤ 120) (hb2 : R.rs.length ≤ 120) (hnl : R.ns.length ≤ 120)
    (hwt : ∀ x, waits M.bs x = cntP R.bs x) (hns : R.ns.Nodup) (hk : ∀ x, 0 < cntP R.bs x → x ∈ R.ns) (hl : ∀ x ∈ R.ns, x.length ≤ maxLen) :
    Calls Tryz.prog 45 #[.pointer (some ⟨gw, 0, none⟩), .pointer (some ⟨gp, 0, none⟩)] w fun e w' => e = .returned (.bool true) ∧ ∃ L' mv', BlkAt w' L' (bl 2 0) gw (cur.setIfInBounds 25 mv') 38 ∧ MapsAt w' L' mv' (n + 1 + 1) ∧ Step (wwP n) L w L' w' := by
  have hgpl := World.block_lt_of_cell? w _ p0
  have hfun : waits M.bs = cntP R.bs := funext hwt
  have HWt := hide (fun w (h : AgentAt w L who gx M) => waiting_any L who gx M w h hb)
  have HK := hide hK
  have HC := hide hc
  have HT := hide hT
  have HA := hide hA
  have HR := hide hR
  have P0 := hide p0
  have P1 := hide p1
  have Hns := hide hns
  have Hk := hide hk
  have Hl := hide hl
  rw [hfun] at HWt
  clear hK hc hT hA hR p0 p1 hwt hfun hns hk hl
  go_enter Tryz.func45, Tryz.ntmps45
  have p0 := P0.out
  go_wp2_with fail
  refine (HWt.out w HA.out).mono ?_
  rintro e w1 ⟨b1, n1, D1, rfl, hg1, hO1, hn1, hC1, hb1⟩
  have p0' : w1.cell? ⟨gp, 0, none⟩ = some (.pointer (some ⟨gx, 0, none⟩)) := (hb1.cell (p := ⟨gp, 0, none⟩) hgpl).trans P0.out
  have hz1 : w.heap.size ≤ w1.heap.size := hb1.size
  have HO1 := hide hO1
  have HC1 := hide hC1
  have Hg1 := hide hg1
  have Hb1 := hide hb1
  clear hg1 hO1 hn1 hC1 hb1 p0
  go_wp2_with fail
  refine (HWt.out w1 (HA.out.keep (Step.of_below (p := fun _ => False) Hb1.out) (fun _ h => h))).mono ?_
  rintro e w2 ⟨b2, n2, D2, rfl, hg2, hO2, hn2, hC2, hb2'⟩
  have hB2 : Below w.heap.size w w2 := Hb1.out.trans (hb2'.mono hz1)
  have p1' : w2.cell? ⟨gp, 1, none⟩ = some (.pointer (some ⟨gy, 0, none⟩)) := (hB2.cell (p := ⟨gp, 1, none⟩) hgpl).trans P1.out
  have HO2 := hide hO2
  have HC2 := hide hC2
  have Hg2 := hide hg2
  have Hb2 := hide hb2'
  have HB2 := hide hB2
  have hz2 : w1.heap.size ≤ w2.heap.size := hb2'.size
  have HP1 := hide p1'
  have HR2 := hide (HR.out.keep (Step.of_below (p := fun _ => False) hB2) (fun _ h => h))
  have HO12 := hide (om_below HO1.out hb2' HO1.out.lt)
  clear hg2 hO2 hn2 hC2 hb2' hB2 p0' p1'
  go_wp2_with fail
  refine (counts_any L who2 gp gy b1 n1 R D1 _ HP1.out HR2.out hb2 hnl HO12.out HC1.out Hl.out (size_counts HO12.out HC1.out Hns.out Hk.out Hl.out)).mono ?_
  rintro e w' ⟨rfl, hw⟩
  subst hw
  go_wp2_with fail
  refine (counts_any L who2 gp gy b2 n2 R D2 _ HP1.out HR2.out hb2 hnl HO2.out HC2.out Hl.out (size_counts HO2.out HC2.out Hns.out Hk.out Hl.out)).mono ?_
  rintro e w' ⟨rfl, hw⟩
  subst hw
  obtain ⟨L1, HL1⟩ : ∃ L1, Hid (L1 = lay (lay L b1 (bl 4 n)) b2 (bl 4 (n + 1))) := ⟨_, rfl⟩
  have h1lt : b1 < w1.heap.size := HO1.out.lt
  have hg1' := Hg1.out
  have hg2' := Hg2.out
  have HS0 : Hid (Step (fun _ => False) L w L1 w') := Step.of_below' HB2.out (fun q hq => by rw [HL1.out, lay_other _ _ (by omega), lay_other _ _ (by omega)])
  have HQ1 : Hid (OMapAt w' L1 (bl 4 n) Tryz.prog 9 (plainElem Tryz.prog 3) b1 n1 D1) := ⟨HO12.out, by rw [HL1.out, lay_other _ _ (by omega), lay_same]⟩
  have HQ2 : Hid (OMapAt w' L1 (bl 4 (n + 1)) Tryz.prog 9 (plainElem Tryz.prog 3) b2 n2 D2) := ⟨HO2.out, by rw [HL1.out, lay_same]⟩
  have HK2 := hide (HK.out.keep HS0.out (fun h => h))
  have HT2 := hide (HT.out.keep HS0.out (fun h => h) (fun _ _ h => h))
  clear hg1' hg2' h1lt
  go_wp2_with fail
  refine (keepMap_any L1 gw n b1 n1 D1 mv cur _ HK2.out HC.out HT2.out (by omega) HQ1.out).mono ?_
  rintro e w3 ⟨rfl, L3, mv3, hK3, hT3, hS3⟩
  have HK3 := hide hK3
  have HT3 := hide hT3
  have HS3 := hide hS3
  have HQ3 := hide (HQ2.out.keep hS3 (by simp [kmP, bl]))
  have HC3 : Hid ((cur.setIfInBounds 25 mv3)[25]? = some mv3) := by
    have := (Array.getElem?_eq_some_iff.1 HC.out).1
    simp [Hid, this]
  clear hK3 hT3 hS3
  go_wp2_with fail
  refine (keepMap_any L3 gw (n + 1) b2 n2 D2 mv3 _ _ HK3.out HC3.out HT3.out (by omega) HQ3.out).mono ?_
  rintro e w4 ⟨rfl, L4, mv4, hK4, hT4, hS4⟩
  have HF : Hid (∃ L' mv', BlkAt w4 L' (bl 2 0) gw (cur.setIfInBounds 25 mv') 38 ∧ MapsAt w4 L' mv' (n + 1 + 1) ∧ Step (wwP n) L w L' w4) := by
    refine ⟨L4, mv4, ?_, hT4, ((HS0.out.mono (fun _ h => h.elim)).trans (HS3.out.mono ?_)).trans (hS4.mono ?_)⟩
    · rw [Array.setIfInBounds_setIfInBounds] at hK4; exact hK4
    · rintro l (h | h | h)
      · exact Or.inl ⟨_, Nat.le_refl _, h⟩
      · exact Or.inr (Or.inl h)
      · exact Or.inr (Or.inr h)
    · rintro l (h | h | h)
      · exact Or.inl ⟨_, by omega, h⟩
      · exact Or.inr (Or.inl h)
      · exact Or.inr (Or.inr h)
  clear hK4 hT4 hS4
  go_wp2_with fail
  go_ret
  exact ⟨rfl, HF.out⟩
end Go.Proofs.YtojpjaifhjigfaaGreatDoor
