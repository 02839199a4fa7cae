/- Steps of the proof (several texts in one): LawDead, LawStatus, LawWorld, LawAsked, OpenedBad. -/
import Derived.Test.YtojpjaifhjigfaaGreatDoorMTakenupto05
import Derived.Test.YtojpjaifhjigfaaGreatDoorMTakenupto04

/- (*World).dead, (*World).waiting, (*pair).status: what is asked of a pair. (No batch has died.) -/
namespace Go.Proofs.YtojpjaifhjigfaaGreatDoor
open Go.RowKit Go.Maps

/-- What World.dead may turn. -/
def wdP (k : Nat) : Lab → Prop := fun l => (∃ j, k ≤ j ∧ l = bl 0 j) ∨ l = bl 1 0 ∨ l = bl 2 0

theorem rowAt_texts {w w' : World} {L : Labs} {l : Lab} {g n : Nat} {xs : List Value} (h : w'.ownsRow w.heap.size 9 1 (.slice (some ⟨g, 0, none⟩) n n) n xs) (hl : L g = l) : RowAt w' L l 9 1 (.slice (some ⟨g, 0, none⟩) n n) n xs := by
  refine ⟨⟨h.1, ?_⟩, fun q hq => ?_⟩
  · rcases h.2 with ⟨e, _⟩ | ⟨q, c, cur, q1, q2, q3⟩
    · cases e
    · exact Or.inr ⟨q, c, cur, q1, Nat.zero_le _, q3⟩
  · obtain rfl : g = q := by simpa [Value.ownBlock] using hq
    exact hl

set_option maxRecDepth 100000 in
set_option maxHeartbeats 1000000 in
theorem wDead_any (L : Labs) (gw gp gx gy who who2 n : Nat) (tv : Value) (cur : Array Value) (M : Ag) (R : Rf) (w : World) (hK : BlkAt w L (bl 2 0) gw cur 38) (hc : cur[23]? = some tv) (hT : TextsAt w L tv n) (h4 : n % 4 = 0) (hn : n + 4 ≤ 8000000)
    (p0 : w.cell? ⟨gp, 0, none⟩ = some (.pointer (some ⟨gx, 0, none⟩))) (p1 : w.cell? ⟨gp, 1, none⟩ = some (.pointer (some ⟨gy, 0, none⟩))) (hA : AgentAt w L who gx M) (hR : RefAt w L who2 gy R) (hd : M.dead = []) (hd2 : R.dead = []) (hb : M.bs.length ≤ 120) :
    Calls Tryz.prog 44 #[.pointer (some ⟨gw, 0, none⟩), .pointer (some ⟨gp, 0, none⟩)] w fun e w' => e = .returned (.bool true) ∧ ∃ L' tv', BlkAt w' L' (bl 2 0) gw (cur.setIfInBounds 23 tv') 38 ∧ TextsAt w' L' tv' (n + 4 + 4) ∧ Step (wdP (n / 4)) L w L' w' := by
  have hids : M.ids = [] := by simp [Ag.ids, hd]
  have hgpl := World.block_lt_of_cell? w _ p0
  have H1 := hide (dead_any L who gx M w hA (by rw [hd]; intro p hp; cases hp) hb (by rw [hd]; simp))
  have HK := hide hK
  have HC := hide hc
  have HT := hide hT
  have HA := hide hA
  have HR := hide hR
  have P0 := hide p0
  have P1 := hide p1
  have Hd := hide hd
  have Hd2 := hide hd2
  rw [hids] at H1
  clear hK hc hT hA hR hd hd2 p0 p1
  go_enter Tryz.func44, Tryz.ntmps44
  have p0 := P0.out
  go_wp2_with fail
  refine H1.out.mono ?_
  rintro e w1 ⟨g1, rfl, hg1, hr1, hb1⟩
  have H2 := hide (dead_any L who gx M w1 (HA.out.keep (Step.of_below (p := fun _ => False) hb1) (fun _ h => h)) (by rw [Hd.out]; intro p hp; cases hp) hb (by rw [Hd.out]; simp))
  rw [hids] at H2
  have p0' : w1.cell? ⟨gp, 0, none⟩ = some (.pointer (some ⟨gx, 0, none⟩)) := (hb1.cell (p := ⟨gp, 0, none⟩) hgpl).trans P0.out
  have hz1 : w.heap.size ≤ w1.heap.size := hb1.size
  have Hg1 := hide hg1
  have Hr1 := hide hr1
  have Hb1 := hide hb1
  clear hg1 hr1 hb1 p0 H1
  go_wp2_with fail
  refine H2.out.mono ?_
  rintro e w2 ⟨g2, rfl, hg2, hr2, hb2⟩
  have hB2 : Below w.heap.size w w2 := Hb1.out.trans (hb2.mono hz1)
  have p1' : w2.cell? ⟨gp, 1, none⟩ = some (.pointer (some ⟨gy, 0, none⟩)) := (hB2.cell (p := ⟨gp, 1, none⟩) hgpl).trans P1.out
  have Hg2 := hide hg2
  have Hr2 := hide hr2
  have Hb2 := hide hb2
  have HB2 := hide hB2
  have hz2 : w1.heap.size ≤ w2.heap.size := hb2.size
  clear hg2 hr2 hb2 hB2 p0' H2
  go_wp2_with fail
  refine (refDied_nil L who2 gy R _ (HR.out.keep (Step.of_below (p := fun _ => False) HB2.out) (fun _ h => h)) Hd2.out).mono ?_
  rintro e w' ⟨rfl, rfl⟩
  go_wp2_with fail
  refine wp_loop_rounds 1 ?_
  rw [rounds_succ]
  obtain ⟨L1, HL1⟩ : ∃ L1, Hid (L1 = lay (lay L g1 (bl 0 (n / 4))) g2 (bl 0 (n / 4 + 1))) := ⟨_, rfl⟩
  have h1lt : g1 < w1.heap.size := (Hr1.out.lt g1 (by simp [Value.ownBlock])).2
  have hg1' := Hg1.out
  have hg2' := Hg2.out
  have HS0 : Hid (Step (fun _ => False) L w L1 w') := Step.of_below' HB2.out (fun q hq => by rw [HL1.out, lay_other _ _ (by omega), lay_other _ _ (by omega)])
  have HQ1 : Hid (RowAt w' L1 (bl 0 (n / 4)) 9 1 (.slice (some ⟨g1, 0, none⟩) 0 0) 0 []) := (rowAt_texts (L := L1) Hr1.out (by rw [HL1.out, lay_other _ _ (by omega), lay_same])).keep (Step.of_below (p := fun _ => False) Hb2.out) (fun h => h)
  have HQ2 : Hid (RowAt w' L1 (bl 0 ((n + 4) / 4)) 9 1 (.slice (some ⟨g2, 0, none⟩) 0 0) 0 []) := rowAt_texts Hr2.out (by rw [HL1.out, lay_same, show (n + 4) / 4 = n / 4 + 1 by omega])
  have HK2 := hide (HK.out.keep HS0.out (fun h => h))
  have HT2 := hide (HT.out.keep HS0.out (fun h => h) (fun _ _ h => h))
  clear hg1' hg2' Hr1 Hr2 h1lt
  go_wp2_with fail
  refine (keepTexts_any L1 gw n g1 0 tv [] cur _ HK2.out HC.out HT2.out h4 (by omega) (by omega) HQ1.out).mono ?_
  rintro e w3 ⟨rfl, L3, tv3, hK3, hT3, hS3⟩
  have hQ3 : RowAt w3 L3 (bl 0 ((n + 4) / 4)) 9 1 (.slice (some ⟨g2, 0, none⟩) 0 0) 0 [] := HQ2.out.keep hS3 (by simp [ktP, bl])
  have HK3 := hide hK3
  have HT3 := hide hT3
  have HS3 := hide hS3
  have HQ3 := hide hQ3
  have HC3 : Hid ((cur.setIfInBounds 23 tv3)[23]? = some tv3) := by
    have := (Array.getElem?_eq_some_iff.1 HC.out).1
    simp [Hid, this]
  clear hK3 hT3 hS3 hQ3
  go_wp2_with fail
  refine (keepTexts_any L3 gw (n + 4) g2 0 tv3 [] _ _ HK3.out HC3.out HT3.out (by omega) (by omega) (by omega) HQ3.out).mono ?_
  rintro e w4 ⟨rfl, L4, tv4, hK4, hT4, hS4⟩
  have HF : Hid (∃ L' tv', BlkAt w4 L' (bl 2 0) gw (cur.setIfInBounds 23 tv') 38 ∧ TextsAt w4 L' tv' (n + 4 + 4) ∧ Step (wdP (n / 4)) L w L' w4) := by
    refine ⟨L4, tv4, ?_, hT4, ((HS0.out.mono (fun _ h => h.elim)).trans (HS3.out.mono ?_)).trans (hS4.mono ?_)⟩
    · rw [Array.setIfInBounds_setIfInBounds] at hK4; exact hK4
    · rintro l (h | h | h)
      · exact Or.inl ⟨_, Nat.le_refl _, h⟩
      · exact Or.inr (Or.inl h)
      · exact Or.inr (Or.inr h)
    · rintro l (h | h | h)
      · exact Or.inl ⟨_, by omega, h⟩
      · exact Or.inr (Or.inl h)
      · exact Or.inr (Or.inr h)
  clear hK4 hT4 hS4
  go_wp2_with fail
  go_ret
  exact ⟨rfl, HF.out⟩

/-- What World.waiting may turn. -/
def wwP (k : Nat) : Lab → Prop := fun l => (∃ j, k ≤ j ∧ l = bl 4 j) ∨ l = bl 3 0 ∨ l = bl 2 0

set_option maxRecDepth 100000 in
set_option maxHeartbeats 1000000 in
theorem wWaiting_any (L : Labs) (gw gp gx gy who who2 n : Nat) (mv : Value) (cur : Array Value) (M : Ag) (R : Rf) (w : World) (hK : BlkAt w L (bl 2 0) gw cur 38) (hc : cur[25]? = some mv) (hT : MapsAt w L mv n) (hn : n + 1 ≤ 8000000)
    (p0 : w.cell? ⟨gp, 0, none⟩ = some (.pointer (some ⟨gx, 0, none⟩))) (p1 : w.cell? ⟨gp, 1, none⟩ = some (.pointer (some ⟨gy, 0, none⟩))) (hA : AgentAt w L who gx M) (hR : RefAt w L who2 gy R) (hb : M.bs.length ≤ 120) (hb2 : R.rs.length ≤ 120) (hnl : R.ns.length ≤ 120)
    (hwt : ∀ x, waits M.bs x = cntP R.bs x) (hns : R.ns.Nodup) (hk : ∀ x, 0 < cntP R.bs x → x ∈ R.ns) (hl : ∀ x ∈ R.ns, x.length ≤ maxLen) :
    Calls Tryz.prog 45 #[.pointer (some ⟨gw, 0, none⟩), .pointer (some ⟨gp, 0, none⟩)] w fun e w' => e = .returned (.bool true) ∧ ∃ L' mv', BlkAt w' L' (bl 2 0) gw (cur.setIfInBounds 25 mv') 38 ∧ MapsAt w' L' mv' (n + 1 + 1) ∧ Step (wwP n) L w L' w' := by
  have hgpl := World.block_lt_of_cell? w _ p0
  have hfun : waits M.bs = cntP R.bs := funext hwt
  have HWt := hide (fun w (h : AgentAt w L who gx M) => waiting_any L who gx M w h hb)
  have HK := hide hK
  have HC := hide hc
  have HT := hide hT
  have HA := hide hA
  have HR := hide hR
  have P0 := hide p0
  have P1 := hide p1
  have Hns := hide hns
  have Hk := hide hk
  have Hl := hide hl
  rw [hfun] at HWt
  clear hK hc hT hA hR p0 p1 hwt hfun hns hk hl
  go_enter Tryz.func45, Tryz.ntmps45
  have p0 := P0.out
  go_wp2_with fail
  refine (HWt.out w HA.out).mono ?_
  rintro e w1 ⟨b1, n1, D1, rfl, hg1, hO1, hn1, hC1, hb1⟩
  have p0' : w1.cell? ⟨gp, 0, none⟩ = some (.pointer (some ⟨gx, 0, none⟩)) := (hb1.cell (p := ⟨gp, 0, none⟩) hgpl).trans P0.out
  have hz1 : w.heap.size ≤ w1.heap.size := hb1.size
  have HO1 := hide hO1
  have HC1 := hide hC1
  have Hg1 := hide hg1
  have Hb1 := hide hb1
  clear hg1 hO1 hn1 hC1 hb1 p0
  go_wp2_with fail
  refine (HWt.out w1 (HA.out.keep (Step.of_below (p := fun _ => False) Hb1.out) (fun _ h => h))).mono ?_
  rintro e w2 ⟨b2, n2, D2, rfl, hg2, hO2, hn2, hC2, hb2'⟩
  have hB2 : Below w.heap.size w w2 := Hb1.out.trans (hb2'.mono hz1)
  have p1' : w2.cell? ⟨gp, 1, none⟩ = some (.pointer (some ⟨gy, 0, none⟩)) := (hB2.cell (p := ⟨gp, 1, none⟩) hgpl).trans P1.out
  have HO2 := hide hO2
  have HC2 := hide hC2
  have Hg2 := hide hg2
  have Hb2 := hide hb2'
  have HB2 := hide hB2
  have hz2 : w1.heap.size ≤ w2.heap.size := hb2'.size
  have HP1 := hide p1'
  have HR2 := hide (HR.out.keep (Step.of_below (p := fun _ => False) hB2) (fun _ h => h))
  have HO12 := hide (om_below HO1.out hb2' HO1.out.lt)
  clear hg2 hO2 hn2 hC2 hb2' hB2 p0' p1'
  go_wp2_with fail
  refine (counts_any L who2 gp gy b1 n1 R D1 _ HP1.out HR2.out hb2 hnl HO12.out HC1.out Hl.out (size_counts HO12.out HC1.out Hns.out Hk.out Hl.out)).mono ?_
  rintro e w' ⟨rfl, hw⟩
  subst hw
  go_wp2_with fail
  refine (counts_any L who2 gp gy b2 n2 R D2 _ HP1.out HR2.out hb2 hnl HO2.out HC2.out Hl.out (size_counts HO2.out HC2.out Hns.out Hk.out Hl.out)).mono ?_
  rintro e w' ⟨rfl, hw⟩
  subst hw
  obtain ⟨L1, HL1⟩ : ∃ L1, Hid (L1 = lay (lay L b1 (bl 4 n)) b2 (bl 4 (n + 1))) := ⟨_, rfl⟩
  have h1lt : b1 < w1.heap.size := HO1.out.lt
  have hg1' := Hg1.out
  have hg2' := Hg2.out
  have HS0 : Hid (Step (fun _ => False) L w L1 w') := Step.of_below' HB2.out (fun q hq => by rw [HL1.out, lay_other _ _ (by omega), lay_other _ _ (by omega)])
  have HQ1 : Hid (OMapAt w' L1 (bl 4 n) Tryz.prog 9 (plainElem Tryz.prog 3) b1 n1 D1) := ⟨HO12.out, by rw [HL1.out, lay_other _ _ (by omega), lay_same]⟩
  have HQ2 : Hid (OMapAt w' L1 (bl 4 (n + 1)) Tryz.prog 9 (plainElem Tryz.prog 3) b2 n2 D2) := ⟨HO2.out, by rw [HL1.out, lay_same]⟩
  have HK2 := hide (HK.out.keep HS0.out (fun h => h))
  have HT2 := hide (HT.out.keep HS0.out (fun h => h) (fun _ _ h => h))
  clear hg1' hg2' h1lt
  go_wp2_with fail
  refine (keepMap_any L1 gw n b1 n1 D1 mv cur _ HK2.out HC.out HT2.out (by omega) HQ1.out).mono ?_
  rintro e w3 ⟨rfl, L3, mv3, hK3, hT3, hS3⟩
  have HK3 := hide hK3
  have HT3 := hide hT3
  have HS3 := hide hS3
  have HQ3 := hide (HQ2.out.keep hS3 (by simp [kmP, bl]))
  have HC3 : Hid ((cur.setIfInBounds 25 mv3)[25]? = some mv3) := by
    have := (Array.getElem?_eq_some_iff.1 HC.out).1
    simp [Hid, this]
  clear hK3 hT3 hS3
  go_wp2_with fail
  refine (keepMap_any L3 gw (n + 1) b2 n2 D2 mv3 _ _ HK3.out HC3.out HT3.out (by omega) HQ3.out).mono ?_
  rintro e w4 ⟨rfl, L4, mv4, hK4, hT4, hS4⟩
  have HF : Hid (∃ L' mv', BlkAt w4 L' (bl 2 0) gw (cur.setIfInBounds 25 mv') 38 ∧ MapsAt w4 L' mv' (n + 1 + 1) ∧ Step (wwP n) L w L' w4) := by
    refine ⟨L4, mv4, ?_, hT4, ((HS0.out.mono (fun _ h => h.elim)).trans (HS3.out.mono ?_)).trans (hS4.mono ?_)⟩
    · rw [Array.setIfInBounds_setIfInBounds] at hK4; exact hK4
    · rintro l (h | h | h)
      · exact Or.inl ⟨_, Nat.le_refl _, h⟩
      · exact Or.inr (Or.inl h)
      · exact Or.inr (Or.inr h)
    · rintro l (h | h | h)
      · exact Or.inl ⟨_, by omega, h⟩
      · exact Or.inr (Or.inl h)
      · exact Or.inr (Or.inr h)
  clear hK4 hT4 hS4
  go_wp2_with fail
  go_ret
  exact ⟨rfl, HF.out⟩
end Go.Proofs.YtojpjaifhjigfaaGreatDoor

/- is, (*pair).status. -/
namespace Go.Proofs.YtojpjaifhjigfaaGreatDoor
open Go.RowKit Go.Maps

theorem eql_same (A : Nat → Addr) (i : Nat) (w : World) : (binOp .eql 71 (ev A i) (ev A i)).run Tryz.prog w = .ok (.bool true) w := by
  obtain ⟨i1, hi1, hcmp⟩ := Option.map_eq_some_iff.1 comp121
  obtain ⟨j1, hj1, _⟩ := Option.map_eq_some_iff.1 size142
  exact run_eql_iface_ptr_same w (A i) Tryz.underlying71 Tryz.underlying260 hi1 hcmp hj1

set_option maxHeartbeats 400000 in
theorem is_ok (w : World) : Calls Tryz.prog 49 #[.nilIface, .int .i64 0] w fun e w' => e = .returned (.bool true) ∧ w' = w := by
  go_enter Tryz.func49, Tryz.ntmps49
  go_wp2
  go_ret
  exact ⟨rfl, rfl⟩

set_option maxHeartbeats 1000000 in
theorem is_err (A : Nat → Addr) (i : Nat) (w : World) (hS : Sents.Holds w 260 gl 11 A) (hi : i < 11) : Calls Tryz.prog 49 #[ev A i, .int .i64 ((i : Int) + 1)] w fun e w' => e = .returned (.bool true) ∧ Below w.heap.size w w' := by
  have hiI : (i : Int) < 11 := by omega
  have hne : ¬ ((i : Int) + 1 = 0) := by omega
  have HE := hide (errors_any A w hS)
  have hcell := errCell A w i hi
  have heq := fun w => eql_same A i w
  clear hS
  go_enter Tryz.func49, Tryz.ntmps49
  go_wp2_with fail
  refine HE.out.mono ?_
  rintro e w' ⟨rfl, rfl⟩
  go_wp2_with fail
  go_ret
  exact ⟨rfl, (Below.refl _ _).alloc (Nat.le_refl _) _⟩

set_option maxRecDepth 100000 in
set_option maxHeartbeats 1000000 in
theorem pStatus_core (gp gx gy : Nat) (id : List UInt8) (x y n : Int) (ee : Value) (w : World)
    (p0 : w.cell? ⟨gp, 0, none⟩ = some (.pointer (some ⟨gx, 0, none⟩))) (p1 : w.cell? ⟨gp, 1, none⟩ = some (.pointer (some ⟨gy, 0, none⟩)))
    (h1 : Calls Tryz.prog 34 #[.pointer (some ⟨gx, 0, none⟩), encStr id] w fun e w' => e = .returned (.tuple #[.agg #[.int .i64 x, .int .i64 y], ee]) ∧ Below w.heap.size w w')
    (h2 : ∀ w1, Below w.heap.size w w1 → Calls Tryz.prog 83 #[.pointer (some ⟨gy, 0, none⟩), encStr id] w1 fun e w' => e = .returned (.tuple #[.agg #[.int .i64 x, .int .i64 y], .int .i64 n]) ∧ Below w1.heap.size w1 w')
    (h3 : ∀ w1, Below w.heap.size w w1 → Calls Tryz.prog 49 #[ee, .int .i64 n] w1 fun e w' => e = .returned (.bool true) ∧ Below w1.heap.size w1 w') :
    Calls Tryz.prog 46 #[.pointer (some ⟨gp, 0, none⟩), encStr id] w fun e w' => e = .returned (.bool true) ∧ Below w.heap.size w w' := by
  have hgpl := World.block_lt_of_cell? w _ p0
  have P1 := hide p1
  have H1 := hide h1
  have H2 := hide h2
  have H3 := hide h3
  clear h1 h2 h3 p1
  go_enter Tryz.func46, Tryz.ntmps46
  go_wp2_with fail
  refine H1.out.mono ?_
  rintro e w1 ⟨rfl, hb1⟩
  have p1' : w1.cell? ⟨gp, 1, none⟩ = some (.pointer (some ⟨gy, 0, none⟩)) := (hb1.cell (p := ⟨gp, 1, none⟩) hgpl).trans P1.out
  have hz1 : w.heap.size ≤ w1.heap.size := hb1.size
  have hgl1 := World.block_lt_of_cell? w1 _ p1'
  have HB1 := hide (fun o => hb1.alloc hz1 o)
  clear hb1
  go_wp2_with fail
  refine (H2.out _ (HB1.out _)).mono ?_
  rintro e w2 ⟨rfl, hb2⟩
  have hK5 : Blk w2 w1.heap.size #[.int .i64 x, .int .i64 y] 82 := (Blk.new w1 _ _).below hb2 (by simp)
  have hz2 : w1.heap.size + 1 ≤ w2.heap.size := by have := hb2.size; simpa using this
  have hB2 : Below w.heap.size w w2 := (HB1.out _).trans (hb2.mono (by simp; omega))
  have HK5 := hide hK5
  have HB2 := hide (fun o => hB2.alloc hB2.size o)
  clear hb2 hK5 p1'
  go_wp2_with fail
  refine (H3.out _ (HB2.out _)).mono ?_
  rintro e w3 ⟨rfl, hb3⟩
  have hK5' : Blk w3 w1.heap.size #[.int .i64 x, .int .i64 y] 82 := (HK5.out.alloc _).below hb3 (by simp; omega)
  have hK7 : Blk w3 w2.heap.size #[.int .i64 x, .int .i64 y] 82 := (Blk.new w2 _ _).below hb3 (by simp)
  have a0 : w3.cell? ⟨w1.heap.size, 0, none⟩ = some (.int .i64 x) := hK5'.cell 0
  have a1 : w3.cell? ⟨w1.heap.size, 1, none⟩ = some (.int .i64 y) := hK5'.cell 1
  have b0 : w3.cell? ⟨w2.heap.size, 0, none⟩ = some (.int .i64 x) := hK7.cell 0
  have b1 : w3.cell? ⟨w2.heap.size, 1, none⟩ = some (.int .i64 y) := hK7.cell 1
  have HF : Hid (Below w.heap.size w w3) := (HB2.out _).trans (hb3.mono (by simp; omega))
  clear hb3 hK5' hK7
  go_wp2_with fail
  go_ret
  exact ⟨by simp, HF.out⟩

theorem pStatus_any (A : Nat → Addr) (L : Labs) (gp gx gy who who2 : Nat) (M : Ag) (R : Rf) (id : List UInt8) (w : World) (hS : Sents.Holds w 260 gl 11 A)
    (p0 : w.cell? ⟨gp, 0, none⟩ = some (.pointer (some ⟨gx, 0, none⟩))) (p1 : w.cell? ⟨gp, 1, none⟩ = some (.pointer (some ⟨gy, 0, none⟩))) (hA : AgentAt w L who gx M) (hR : RefAt w L who2 gy R) (hb : M.bs.length ≤ 120) (hbs : R.bs = M.bs) :
    Calls Tryz.prog 46 #[.pointer (some ⟨gp, 0, none⟩), encStr id] w fun e w' => e = .returned (.bool true) ∧ Below w.heap.size w w' := by
  have hrl : R.rs.length ≤ 120 := by
    have := congrArg List.length hbs
    simp [Rf.bs] at this
    omega
  rcases findId_cases M.bs id with ⟨hid, _⟩ | ⟨i, b, hid, hbi, _⟩
  · exact pStatus_core gp gx gy id 0 0 5 (ev A 4) w p0 p1 (status_none A L who gx M id w hS hA hb hid)
      (fun w1 hb1 => refStatus_none L who2 gy R id w1 (hR.keep (Step.of_below (p := fun _ => False) hb1) (fun _ h => h)) hrl (by rw [hbs]; exact hid))
      (fun w1 hb1 => is_err A 4 w1 (hS.below hb1) (by omega))
  · obtain ⟨r, hr⟩ : ∃ r, R.rs[i]? = some r := by
      rw [← hbs] at hbi
      simp only [Rf.bs, List.getElem?_map, Option.map_eq_some_iff] at hbi
      obtain ⟨r, h, _⟩ := hbi
      exact ⟨r, h⟩
    have hrb : r.b = b := by
      have := Rf.get hr
      rw [hbs, hbi] at this
      exact (Option.some.inj this).symm
    exact pStatus_core gp gx gy id b.st b.fl 0 .nilIface w p0 p1 (status_some L who gx M id i b w hA hb hid hbi)
      (fun w1 hb1 => hrb ▸ refStatus_some L who2 gy R id i r w1 (hR.keep (Step.of_below (p := fun _ => False) hb1) (fun _ h => h)) hrl (by rw [hbs]; exact hid) hr)
      (fun w1 _ => (is_ok w1).mono (by rintro e w' ⟨rfl, rfl⟩; exact ⟨rfl, Below.refl _ _⟩))
end Go.Proofs.YtojpjaifhjigfaaGreatDoor

/- The law's world: its pairs, its book; asked. -/
namespace Go.Proofs.YtojpjaifhjigfaaGreatDoor
open Go.RowKit Go.Maps

/-- The program's agent and the document's hold the same (nothing has been sent). -/
structure Sim (M : Ag) (R : Rf) : Prop where
  c : R.c = M.c
  bs : R.bs = M.bs
  dd : M.dead = []
  dr : R.dead = []
  good : GoodC M.c M.D
  pm : R.ns.Perm (strKeys M.D)
  nd : R.ns.Nodup
  nl : R.ns.length ≤ 8
  sl : ∀ x ∈ R.ns, 1 ≤ x.length ∧ x.length ≤ 16
  hs : ∀ x, x ∈ R.ns ↔ Maps.has M.D (.string x) = true
  b120 : M.bs.length ≤ 120
  each : ∀ b ∈ M.bs, 0 ≤ b.dst ∧ b.dst < M.c.d ∧ b.ten ∈ R.ns ∧ b.st = 1 ∧ 1 ≤ b.id.length ∧ b.id.length ≤ 16 ∧ b.body.length ≤ 63
  rt : M.rt.length = M.bs.length
  lg : M.log.length ≤ 103 * M.bs.length

/-- A pair in memory. -/
def PairAt (w : World) (L : Labs) (i gp : Nat) (M : Ag) (R : Rf) : Prop := ∃ gx gy c m sv lg, BlkAt w L (bl 8 i) gp (prCells gx gy c m sv lg) 102 ∧ AgentAt w L (2 * i + 1) gx M ∧ RefAt w L (2 * i + 2) gy R ∧ Sim M R
theorem PairAt.keep {w w' : World} {L L' : Labs} {i gp : Nat} {M : Ag} {R : Rf} (h : PairAt w L i gp M R) {p : Lab → Prop} (s : Step p L w L' w') (h8 : ¬ p (bl 8 i)) (h1 : ∀ q, ¬ p (some (2 * i + 1, q))) (h2 : ∀ q, ¬ p (some (2 * i + 2, q))) : PairAt w' L' i gp M R := by
  obtain ⟨gx, gy, c, m, sv, lg, q1, q2, q3, q4⟩ := h
  exact ⟨gx, gy, c, m, sv, lg, q1.keep s h8, q2.keep s h1, q3.keep s h2, q4⟩

/-- The world. -/
structure WAt (w : World) (L : Labs) (gw : Nat) (A : Nat → Addr) (cur : Array Value) (pv tv mv : Value) (np nt nm : Nat) (ps : List Value) : Prop where
  blk : BlkAt w L (bl 2 0) gw cur 38
  c22 : cur[22]? = some pv
  c23 : cur[23]? = some tv
  c24 : cur[24]? = some (.slice none 0 0)
  c25 : cur[25]? = some mv
  prs : RowAt w L (bl 7 0) 97 1 pv np ps
  pr : ∀ (i : Nat) (v : Value), ps[i]? = some v → ∃ gp M R, v = .pointer (some ⟨gp, 0, none⟩) ∧ PairAt w L i gp M R
  txt : TextsAt w L tv nt
  mps : MapsAt w L mv nm
  err : ErrsAt w L A

theorem WAt.text {w w' : World} {L L' : Labs} {gw : Nat} {A : Nat → Addr} {cur : Array Value} {pv tv mv tv' : Value} {np nt nm nt' k : Nat} {ps : List Value} (h : WAt w L gw A cur pv tv mv np nt nm ps) (hb : BlkAt w' L' (bl 2 0) gw (cur.setIfInBounds 23 tv') 38) (ht : TextsAt w' L' tv' nt') (s : Step (wdP k) L w L' w') :
    WAt w' L' gw A (cur.setIfInBounds 23 tv') pv tv' mv np nt' nm ps := by
  have hl := (Array.getElem?_eq_some_iff.1 h.c23).1
  refine ⟨hb, by rw [Array.getElem?_setIfInBounds_ne (by omega)]; exact h.c22, by simp [hl], by rw [Array.getElem?_setIfInBounds_ne (by omega)]; exact h.c24, by rw [Array.getElem?_setIfInBounds_ne (by omega)]; exact h.c25,
    h.prs.keep s (by simp [wdP, bl]), fun i v hv => ?_, ht, h.mps.keep s (by simp [wdP, bl]) (fun i _ => by simp [wdP, bl]), h.err.keep s (by simp [wdP])⟩
  obtain ⟨gp, M, R, h1, h2⟩ := h.pr i v hv
  exact ⟨gp, M, R, h1, h2.keep s (by simp [wdP, bl]) (fun q => by simp [wdP, bl]) (fun q => by simp [wdP, bl])⟩
theorem WAt.map {w w' : World} {L L' : Labs} {gw : Nat} {A : Nat → Addr} {cur : Array Value} {pv tv mv mv' : Value} {np nt nm nm' k : Nat} {ps : List Value} (h : WAt w L gw A cur pv tv mv np nt nm ps) (hb : BlkAt w' L' (bl 2 0) gw (cur.setIfInBounds 25 mv') 38) (ht : MapsAt w' L' mv' nm') (s : Step (wwP k) L w L' w') :
    WAt w' L' gw A (cur.setIfInBounds 25 mv') pv tv mv' np nt nm' ps := by
  have hl := (Array.getElem?_eq_some_iff.1 h.c25).1
  refine ⟨hb, by rw [Array.getElem?_setIfInBounds_ne (by omega)]; exact h.c22, by rw [Array.getElem?_setIfInBounds_ne (by omega)]; exact h.c23, by rw [Array.getElem?_setIfInBounds_ne (by omega)]; exact h.c24, by simp [hl],
    h.prs.keep s (by simp [wwP, bl]), fun i v hv => ?_, h.txt.keep s (by simp [wwP, bl]) (fun i _ => by simp [wwP, bl]), ht, h.err.keep s (by simp [wwP])⟩
  obtain ⟨gp, M, R, h1, h2⟩ := h.pr i v hv
  exact ⟨gp, M, R, h1, h2.keep s (by simp [wwP, bl]) (fun q => by simp [wwP, bl]) (fun q => by simp [wwP, bl])⟩
theorem WAt.step {w w' : World} {L L' : Labs} {gw : Nat} {A : Nat → Addr} {cur : Array Value} {pv tv mv : Value} {np nt nm : Nat} {ps : List Value} (h : WAt w L gw A cur pv tv mv np nt nm ps) (s : Step (fun _ => False) L w L' w') : WAt w' L' gw A cur pv tv mv np nt nm ps := by
  refine ⟨h.blk.keep s (fun h => h), h.c22, h.c23, h.c24, h.c25, h.prs.keep s (fun h => h), fun i v hv => ?_, h.txt.keep s (fun h => h) (fun _ _ h => h), h.mps.keep s (fun h => h) (fun _ _ h => h), h.err.keep s (fun h => h)⟩
  obtain ⟨gp, M, R, h1, h2⟩ := h.pr i v hv
  exact ⟨gp, M, R, h1, h2.keep s (fun h => h) (fun _ h => h) (fun _ h => h)⟩
theorem WAt.below {w w' : World} {L : Labs} {gw : Nat} {A : Nat → Addr} {cur : Array Value} {pv tv mv : Value} {np nt nm : Nat} {ps : List Value} (h : WAt w L gw A cur pv tv mv np nt nm ps) (hb : Below w.heap.size w w') : WAt w' L gw A cur pv tv mv np nt nm ps := h.step (Step.of_below hb)

/-- Lanes against tenants: of batches to the four destinations the counts are one. -/
theorem pend_snoc (bs : List Bat) (b : Bat) (d : Int) (t : List UInt8) : pend (bs ++ [b]) d t = pend bs d t ++ (if decide (b.dst = d) && decide (b.ten = t) && decide (b.st = 1) then [bs.length] else []) := by
  unfold pend
  rw [List.zipIdx_append, List.filter_append, List.map_append]
  congr 1
  simp only [List.zipIdx_cons, List.zipIdx_nil, List.filter_cons, List.filter_nil]
  split <;> simp_all
theorem waits_snoc (bs : List Bat) (b : Bat) (h0 : 0 ≤ b.dst) (h1 : b.dst < 4) (t : List UInt8) : waits (bs ++ [b]) t = waits bs t + (if decide (b.ten = t) && decide (b.st = 1) then 1 else 0) := by
  have hd : b.dst = 0 ∨ b.dst = 1 ∨ b.dst = 2 ∨ b.dst = 3 := by omega
  unfold waits
  rw [pend_snoc, pend_snoc, pend_snoc, pend_snoc]
  rcases hd with h | h | h | h <;> rw [h] <;> by_cases ht : b.ten = t <;> by_cases hs : b.st = 1 <;> simp [ht, hs] <;> omega
theorem cntP_snoc (bs : List Bat) (b : Bat) (t : List UInt8) : cntP (bs ++ [b]) t = cntP bs t + (if decide (b.ten = t) && decide (b.st = 1) then 1 else 0) := by
  unfold cntP
  rw [List.filter_append, List.length_append]
  congr 1
  simp only [List.filter_cons, List.filter_nil]
  by_cases ht : b.ten = t <;> by_cases hs : b.st = 1 <;> simp [ht, hs]
theorem snoc_ind {α : Type} {P : List α → Prop} (h0 : P []) (hs : ∀ l a, P l → P (l ++ [a])) (l : List α) : P l := by
  have : ∀ m : List α, P m.reverse := fun m => by
    induction m with
    | nil => exact h0
    | cons a m ih => rw [List.reverse_cons]; exact hs _ _ ih
  simpa using this l.reverse
theorem waits_eq (bs : List Bat) (t : List UInt8) : (∀ b ∈ bs, 0 ≤ b.dst ∧ b.dst < 4) → waits bs t = cntP bs t := by
  refine snoc_ind (P := fun bs => (∀ b ∈ bs, 0 ≤ b.dst ∧ b.dst < 4) → waits bs t = cntP bs t) (fun _ => rfl) (fun l b ih h => ?_) bs
  · have hb := h b (by simp)
    rw [waits_snoc l b hb.1 hb.2, cntP_snoc, ih (fun x hx => h x (by simp [hx]))]
theorem Sim.waits {M : Ag} {R : Rf} (h : Sim M R) (x : List UInt8) : waits M.bs x = cntP R.bs x := by
  rw [h.bs]
  have hd := Cfg.num_d h.good.1
  exact waits_eq M.bs x (fun b hb => ⟨(h.each b hb).1, by have := (h.each b hb).2.1; omega⟩)
theorem Sim.named {M : Ag} {R : Rf} (h : Sim M R) (x : List UInt8) (hx : 0 < cntP R.bs x) : x ∈ R.ns := by
  rw [h.bs] at hx
  unfold cntP at hx
  obtain ⟨b, hb⟩ := List.exists_mem_of_length_pos hx
  rw [List.mem_filter] at hb
  have e : b.ten = x := by have := hb.2; simp at this; exact this.1
  rw [← e]
  exact (h.each b hb.1).2.2.1
end Go.Proofs.YtojpjaifhjigfaaGreatDoor

/- (*World).asked: all of all agents. -/
namespace Go.Proofs.YtojpjaifhjigfaaGreatDoor
open Go.RowKit Go.Maps

/-- What is labelled. -/
def someP : Lab → Prop := fun l => l ≠ none

set_option maxRecDepth 100000 in
set_option maxHeartbeats 2000000 in
theorem asked_any (L : Labs) (gw : Nat) (A : Nat → Addr) (cur : Array Value) (pv tv mv : Value) (np nt nm : Nat) (ps : List Value) (w : World) (h : WAt w L gw A cur pv tv mv np nt nm ps) (h4 : nt % 4 = 0) (hn : nt + 8 * np ≤ 8000000) (hm : nm + 2 * np ≤ 8000000) :
    Calls Tryz.prog 17 #[.pointer (some ⟨gw, 0, none⟩)] w fun e w' => e = .returned (.bool true) ∧ ∃ L', Step someP L w L' w' := by
  obtain ⟨pa, pk, rfl, _⟩ := h.prs.shape
  have hpl : ps.length = np := by have := h.prs.1.1; omega
  have H := hide h
  clear h
  go_enter Tryz.func17, Tryz.ntmps17
  go_wp2_with fail
  go_loopw [3] (fun i wr => ∃ (t : Nat) (L1 : Labs) (cur1 : Array Value) (tv1 mv1 : Value), t ≤ np ∧ i = .int .i64 t ∧ WAt wr L1 gw A cur1 (.slice pa np pk) tv1 mv1 np (nt + 8 * t) (nm + 2 * t) ps ∧ Step someP L w L1 wr) (fun i _ => np - (intOf i).toNat)
  case atStart => exact ⟨0, L, cur, tv, mv, Nat.zero_le _, rfl, H.out, Step.refl _ _ _⟩
  case round =>
    obtain ⟨t, L1, cur1, tv1, mv1, ht, rfl, hW, hS⟩ := hrel
    have HW := hide hW
    have HS := hide hS
    have a22 : wr.cell? ⟨gw, 22, none⟩ = some (.slice pa np pk) := (hW.blk.1.cell 22).trans hW.c22
    clear hW hS
    by_cases hlt : t < np
    · have hltI : (t : Int) < (np : Int) := by omega
      obtain ⟨gr, rfl, hgr, _, hcell, _⟩ := HW.out.prs.head (by omega)
      obtain ⟨v, hv⟩ : ∃ v, ps[t]? = some v := ⟨_, List.getElem?_eq_getElem (by omega)⟩
      obtain ⟨gp, M, R, rfl, hP⟩ := HW.out.pr t v hv
      have hct := hcell t _ hv
      have HP := hide hP
      have Hv := hide hv
      clear hcell hP hv
      obtain ⟨gx, gy, c, m, sv, lg, hpb, hA, hR, hSim⟩ := HP.out
      have HSim := hide hSim
      have HD := hide (wDead_any L1 gw gp gx gy (2 * t + 1) (2 * t + 2) (nt + 8 * t) tv1 cur1 M R wr HW.out.blk HW.out.c23 HW.out.txt (by omega) (by omega) (hpb.1.cell 0) (hpb.1.cell 1) hA hR hSim.dd hSim.dr hSim.b120)
      clear hpb hA hR hSim
      go_wp2_with fail
      refine HD.out.mono ?_
      rintro e w1 ⟨rfl, L2, tv2, hK2, hT2, hS2⟩
      have hW2 := HW.out.text hK2 hT2 hS2
      have HS2 : Hid (Step someP L w L2 w1) := HS.out.trans (hS2.mono (fun l h => by rcases h with ⟨j, _, rfl⟩ | rfl | rfl <;> simp [someP, bl]))
      have HW2 := hide hW2
      have hP2 : PairAt w1 L2 t gp M R := HP.out.keep hS2 (by simp [wdP, bl]) (fun q => by simp [wdP, bl]) (fun q => by simp [wdP, bl])
      obtain ⟨gx2, gy2, c2, m2, sv2, lg2, hpb2, hA2, hR2, _⟩ := hP2
      have HDw := hide (wWaiting_any L2 gw gp gx2 gy2 (2 * t + 1) (2 * t + 2) (nm + 2 * t) mv1 _ M R w1 HW2.out.blk HW2.out.c25 HW2.out.mps (by omega) (hpb2.1.cell 0) (hpb2.1.cell 1) hA2 hR2 HSim.out.b120 (by have := congrArg List.length HSim.out.bs; simp [Rf.bs] at this; have := HSim.out.b120; omega) (by have := HSim.out.nl; omega) HSim.out.waits HSim.out.nd HSim.out.named (fun x hx => by have := (HSim.out.sl x hx).2; unfold maxLen; omega))
      have HP2 := hide (show PairAt w1 L2 t gp M R from ⟨gx2, gy2, c2, m2, sv2, lg2, hpb2, hA2, hR2, HSim.out⟩)
      clear hK2 hT2 hS2 hW2 hpb2 hA2 hR2 HD
      go_wp2_with fail
      refine HDw.out.mono ?_
      rintro e w2 ⟨rfl, L3, mv3, hK3, hT3, hS3⟩
      have HW3 := hide (HW2.out.map hK3 hT3 hS3)
      have HS3 : Hid (Step someP L w L3 w2) := HS2.out.trans (hS3.mono (fun l h => by rcases h with ⟨j, _, rfl⟩ | rfl | rfl <;> simp [someP, bl]))
      obtain ⟨gx3, gy3, c3, m3, sv3, lg3, hpb3, hA3, hR3, _⟩ := HP2.out.keep hS3 (by simp [wwP, bl]) (fun q => by simp [wwP, bl]) (fun q => by simp [wwP, bl])
      have HA3 := hide hA3
      have HR3 := hide hR3
      have HE3 := hide (HW3.out.err.hs)
      obtain ⟨nv3, qv3, bv3, dv3, la3, lk3, hrf⟩ := hR3
      obtain ⟨ba, bc, rfl, _⟩ := hrf.tk.shape
      have P0 : Hid (w2.cell? ⟨gp, 0, none⟩ = some (.pointer (some ⟨gx3, 0, none⟩))) := hpb3.1.cell 0
      have P1 : Hid (w2.cell? ⟨gp, 1, none⟩ = some (.pointer (some ⟨gy3, 0, none⟩))) := hpb3.1.cell 1
      have C13 : Hid (w2.cell? ⟨gy3, 13, none⟩ = some (.slice ba R.rs.length bc)) := hrf.blk.1.cell 13
      have HTk := hide hrf.tk
      have hgpl := hpb3.1.lt
      have hgyl := hrf.blk.1.lt
      have hrl : R.rs.length = M.bs.length := by have := congrArg List.length HSim.out.bs; simpa [Rf.bs] using this
      have hr120 : R.rs.length ≤ 120 := by have := HSim.out.b120; omega
      clear hK3 hT3 hS3 hpb3 hA3 hrf HDw
      go_wp2_with fail
      go_loopw [7, 8] (fun q _ wq => ∃ j : Nat, j ≤ R.rs.length ∧ q = .int .i64 j ∧ Below w2.heap.size w2 wq) (fun q _ _ => R.rs.length - (intOf q).toNat)
      case atStart => exact ⟨0, Nat.zero_le _, rfl, Below.refl _ _⟩
      case round =>
        obtain ⟨j, hj, rfl, hnx⟩ := hrel
        have Hnx := hide hnx
        have p1 : wr.cell? ⟨gp, 1, none⟩ = some (.pointer (some ⟨gy3, 0, none⟩)) := (hnx.cell (p := ⟨gp, 1, none⟩) hgpl).trans P1.out
        have c13 : wr.cell? ⟨gy3, 13, none⟩ = some (.slice ba R.rs.length bc) := (hnx.cell (p := ⟨gy3, 13, none⟩) hgyl).trans C13.out
        clear hnx
        by_cases hjl : j < R.rs.length
        · have hjI : (j : Int) < (R.rs.length : Int) := by omega
          obtain ⟨gb, rfl, hgb, _, hcb, _⟩ := HTk.out.head (by omega)
          obtain ⟨r, hr⟩ : ∃ r, R.rs[j]? = some r := ⟨_, List.getElem?_eq_getElem hjl⟩
          have e2 : wr.cell? ⟨gb, j * 8 + 2, none⟩ = some (encStr r.b.id) := (Hnx.out.cell (p := ⟨gb, _, none⟩) hgb).trans (hcb _ _ (RBat.cell hr (by omega) rfl))
          have HSt := hide (pStatus_any A L3 gp gx3 gy3 (2 * t + 1) (2 * t + 2) M R r.b.id wr (HE3.out.below Hnx.out) ((Hnx.out.cell (p := ⟨gp, 0, none⟩) hgpl).trans P0.out) p1 (HA3.out.keep (Step.of_below (p := fun _ => False) Hnx.out) (fun _ h => h)) (HR3.out.keep (Step.of_below (p := fun _ => False) Hnx.out) (fun _ h => h)) HSim.out.b120 HSim.out.bs)
          clear hcb hr
          go_wp2_with fail
          refine HSt.out.mono ?_
          rintro e w5 ⟨rfl, hb5⟩
          have HB5 : Hid (Below w2.heap.size w2 w5) := Hnx.out.trans (hb5.mono Hnx.out.size)
          clear hb5
          go_wp2_with fail
          go_roundw
          case rel => exact ⟨j + 1, by omega, by go_num, HB5.out⟩
          case measure => simp [intOf]; omega
        · go_wp2_with fail
          go_roundw
          case rel => exact ⟨t + 1, L3, _, tv2, mv3, by omega, by go_num, (HW3.out.below Hnx.out), HS3.out.trans (Step.of_below Hnx.out)⟩
          case measure => simp [intOf]; omega
    · have HF := hide (whole_any L1 gw _ _ tv1 mv1 cur1 wr HW.out.blk HW.out.c23 HW.out.c24 HW.out.c25 HW.out.txt HW.out.mps (by omega) (by omega))
      go_wp2_with fail
      refine HF.out.mono ?_
      rintro e w1 ⟨rfl, hb1⟩
      have HS1 : Hid (Step someP L w L1 w1) := HS.out.trans (Step.of_below hb1)
      clear hb1
      go_wp2_with fail
      go_ret
      exact ⟨rfl, L1, HS1.out⟩
end Go.Proofs.YtojpjaifhjigfaaGreatDoor

/- (*World).opened: a configuration is opened by the program and by the document's answer. -/
namespace Go.Proofs.YtojpjaifhjigfaaGreatDoor
open Go.RowKit Go.Maps
attribute [local go_sem] run_store_float

theorem run_clear_map {P : Program} {w : World} {t k e : TypeId} {r : Nat} {es : Array MapEntry} {clock : Nat} (hm : P.underlying t = some (.map k e)) (hb : w.heap[r]? = some (.map es clock)) (ty : TypeId) :
    (Builtin.clear_ #[t] ty #[.map (some r)]).run P w = .ok (.tuple #[]) (ChangeMaps.setBlock w r (.map #[] clock)) := by
  simp [Builtin.clear_, run_underlying hm, MapKept.run_getObj_map hb, MapKept.run_setObj_map _ hb, Result.andThen]
  rfl
theorem run_clear_nil {P : Program} {w : World} {t k e : TypeId} (hm : P.underlying t = some (.map k e)) (ty : TypeId) :
    (Builtin.clear_ #[t] ty #[.map none]).run P w = .ok (.tuple #[]) w := by
  simp [Builtin.clear_, run_underlying hm]

theorem below_setBlock {w : World} {r : Nat} {es : Array MapEntry} {clock : Nat} (hb : w.heap[r]? = some (.map es clock)) (o : Obj) : Below r w (ChangeMaps.setBlock w r o) :=
  ⟨rfl, rfl, rfl, by simp [ChangeMaps.setBlock], fun k hk => ChangeMaps.heap_setBlock_other hb o (by omega)⟩
/-- What pick makes of a number. -/
def PickIs (z : Int) (n : Nat) : Prop := ∀ w : World, Calls Tryz.prog 40 #[.int .i64 z, .int .i64 2] w fun e w' => e = .returned (.int .i64 n) ∧ w' = w

set_option maxRecDepth 100000 in
set_option maxHeartbeats 4000000 in
theorem opened_bad_some (z : Int) (n gw : Nat) (hn : n < 2) (hpk : PickIs z n) (A : Nat → Addr) (c : Cfg) (b nb : Nat) (D : DataW Unit) (w : World) (hS : Sents.Holds w 260 gl 11 A) (hown : OM w b nb D) (hnb : nb ≤ big) (hg : ¬ GoodC c D)
    (hcfg : w.cell? ⟨gw, n * 11, none⟩ = some (.int .i64 c.d) ∧ w.cell? ⟨gw, n * 11 + 1, none⟩ = some (.map (some b)) ∧ w.cell? ⟨gw, n * 11 + 2, none⟩ = some (.int .i64 c.q) ∧ w.cell? ⟨gw, n * 11 + 3, none⟩ = some (.int .i64 c.at') ∧ w.cell? ⟨gw, n * 11 + 4, none⟩ = some (.int .i64 c.ba) ∧ w.cell? ⟨gw, n * 11 + 5, none⟩ = some (.int .i64 c.ca) ∧ w.cell? ⟨gw, n * 11 + 6, none⟩ = some (.int .i64 c.ti) ∧ w.cell? ⟨gw, n * 11 + 7, none⟩ = some (.int .i64 c.wi) ∧ w.cell? ⟨gw, n * 11 + 8, none⟩ = some (.int .i64 c.le) ∧ w.cell? ⟨gw, n * 11 + 9, none⟩ = some (.float .f64 c.th) ∧ w.cell? ⟨gw, n * 11 + 10, none⟩ = some (.int .i64 c.op)) :
    Calls Tryz.prog 16 #[.pointer (some ⟨gw, 0, none⟩), .int .i64 z] w fun e w' => e = .returned (.bool true) ∧ Below w.heap.size w w' := by
  obtain ⟨e0, e1, e2, e3, e4, e5, e6, e7, e8, e9, e10⟩ := hcfg
  have HS := hide hS
  have HPk := hide hpk
  have HO := hide hown
  have HG := hide hg
  have hgw := World.block_lt_of_cell? w _ e0
  have hbl := hown.lt
  have hnI : (n : Int) < 2 := by omega
  have hn0 : (0 : Int) ≤ (n : Int) := by omega
  have hnn := fun w => run_neq_map_nil (P := Tryz.prog) w 22 9 3 (some b) Tryz.underlying22
  have hmm := @run_makeMap Tryz.prog
  clear hS hown hg hpk
  go_enter Tryz.func16, Tryz.ntmps16
  go_upto_region 1 with fail
  go_cut [5] (fun s5 wx => s5 = .pointer (some ⟨w.heap.size, 0, none⟩) ∧ wx = (w.alloc (.cells (c.cells (some b)) 25)).drew)
  case first =>
    go_region_held3 (fun w' => w'.cell? ⟨gw, n * 11, none⟩ = some (.int .i64 c.d) ∧ w'.cell? ⟨gw, n * 11 + 1, none⟩ = some (.map (some b)) ∧ w'.cell? ⟨gw, n * 11 + 2, none⟩ = some (.int .i64 c.q) ∧ w'.cell? ⟨gw, n * 11 + 3, none⟩ = some (.int .i64 c.at') ∧ w'.cell? ⟨gw, n * 11 + 4, none⟩ = some (.int .i64 c.ba) ∧ w'.cell? ⟨gw, n * 11 + 5, none⟩ = some (.int .i64 c.ca) ∧ w'.cell? ⟨gw, n * 11 + 6, none⟩ = some (.int .i64 c.ti) ∧ w'.cell? ⟨gw, n * 11 + 7, none⟩ = some (.int .i64 c.wi) ∧ w'.cell? ⟨gw, n * 11 + 8, none⟩ = some (.int .i64 c.le) ∧ w'.cell? ⟨gw, n * 11 + 9, none⟩ = some (.float .f64 c.th) ∧ w'.cell? ⟨gw, n * 11 + 10, none⟩ = some (.int .i64 c.op)) (go_keep)
      (first
        | (go_at_call 40; refine (HPk.out _).mono ?_; rintro e w1 ⟨rfl, rfl⟩))
    all_goals (go_wp2_with fail; go_meet; exact ⟨rfl, rfl⟩)
  case rest =>
  obtain ⟨rfl, hwc⟩ := hcut
  have hK0 : Blk wc w.heap.size (c.cells (some b)) 25 := by rw [hwc]; exact Blk.new w _ _
  have hz0 : wc.heap.size = w.heap.size + 1 := by rw [hwc]; simp
  have hB0 : Below w.heap.size w wc := by rw [hwc]; exact ((Below.refl _ _).alloc (Nat.le_refl _) _).drew
  clear hwc e0 e1 e2 e3 e4 e5 e6 e7 e8 e9 e10
  obtain ⟨e0, e1, e2, e3, e4, e5, e6, e7, e8, e9, e10⟩ : wc.cell? ⟨w.heap.size, 0, none⟩ = some (.int .i64 c.d) ∧ wc.cell? ⟨w.heap.size, 1, none⟩ = some (.map (some b)) ∧ wc.cell? ⟨w.heap.size, 2, none⟩ = some (.int .i64 c.q) ∧ wc.cell? ⟨w.heap.size, 3, none⟩ = some (.int .i64 c.at') ∧ wc.cell? ⟨w.heap.size, 4, none⟩ = some (.int .i64 c.ba) ∧ wc.cell? ⟨w.heap.size, 5, none⟩ = some (.int .i64 c.ca) ∧ wc.cell? ⟨w.heap.size, 6, none⟩ = some (.int .i64 c.ti) ∧ wc.cell? ⟨w.heap.size, 7, none⟩ = some (.int .i64 c.wi) ∧ wc.cell? ⟨w.heap.size, 8, none⟩ = some (.int .i64 c.le) ∧ wc.cell? ⟨w.heap.size, 9, none⟩ = some (.float .f64 c.th) ∧ wc.cell? ⟨w.heap.size, 10, none⟩ = some (.int .i64 c.op) := ⟨hK0.cell 0, hK0.cell 1, hK0.cell 2, hK0.cell 3, hK0.cell 4, hK0.cell 5, hK0.cell 6, hK0.cell 7, hK0.cell 8, hK0.cell 9, hK0.cell 10⟩
  have HK0 := hide hK0
  have HB0 := hide hB0
  have Hz0 := hide hz0
  have hlt0 : w.heap.size < wc.heap.size := hK0.lt
  clear hK0 hB0 hz0
  have hownc : OM wc b nb D := om_below HO.out HB0.out hbl
  have hblc : b < wc.heap.size := hownc.lt
  have hsize : Maps.size D ≤ nb := hownc.size_le
  go_wp2_with (first
    | (at_range; refine wpList_range_own _ rfl _ 22 rfl 9 3 lawS Tryz.underlying22 _ b nb _ rfl ((hownc.alloc _).alloc _) ?_; intro w0 hrg0 hg0 hs0)
    | fail)
  try go_frame
  try simp only [World.size_alloc] at hrg0 ⊢
  generalize hN : wc.heap.size = N at *
  have HNe := hide hN
  have hw0K : Blk w0 N (c.cells (some (N + 1))) 25 := by
    have h1 := ((Blk.made hN (c.cells (some (N + 1))) 25).alloc (.map #[] 0)).grown hg0 (by simp)
    exact h1
  have hw0M : OM w0 (N + 1) 0 (.map []) := (om_new (by simp [hN])).kept hg0 (by simp)
  have hw0B : Below N wc w0 := (((Below.refl _ _).alloc (by omega) _).alloc (by simp; omega) _).grown hg0 (by simp; omega) (fun j hj => by cases hj)
  have HK := hide hw0K
  have HM := hide hw0M
  have HB := hide hw0B
  clear hw0K hw0M hw0B hg0 hs0 hN e0 e1 e2 e3 e4 e5 e6 e7 e8 e9 e10
  go_loopw [7] (fun _ wr => ∃ (left : Lit → Bool) (cnt : Nat) (Dout : DataW Unit), RG wr b (N + 1 + 1) nb D left cnt ∧ cnt ≤ Maps.size D ∧ OM wr (N + 1) (Maps.size D - cnt) Dout ∧ Agree Dout D left ∧
      Blk wr N (c.cells (some (N + 1))) 25 ∧ Below N wc wr) (fun _ wr => wr.rangeLeft b (N + 1 + 1))
  case atStart => exact ⟨_, _, .map [], hrg0, Nat.le_refl _, HM.out.mono (Nat.zero_le _), agree_start D, HK.out, HB.out⟩
  case round =>
    obtain ⟨left, cnt, Dout, hrg, hcs, hout, hA, hK, hnx⟩ := hrel
    have Hout := hide hout
    have HA := hide hA
    have HK1 := hide hK
    have Hnx := hide hnx
    have hNw : N < wr.heap.size := hK.lt
    have e1 : wr.cell? ⟨N, 1, none⟩ = some (.map (some (N + 1))) := hK.cell 1
    clear hout hA hK hnx
    go_wp2_with (first
      | (at_next; refine wpList_next_ranges _ rfl _ rfl 9 lawS (plainElem Tryz.prog 3) encStr (Value.int .i64) invK invV b (N + 1 + 1) nb _ _ _ rfl hrg ?_ ?_)
      | fail)
    · intro hc0 hl0
      have hE : Dout = D := agree_end HA.out hl0 (Hout.out.canon lawS) (HO.out.canon lawS)
      subst hE
      clear hl0 e1
      have hNw' : N ≤ wr.heap.size := by omega
      have hwN : w.heap.size < N := by have := HNe.out; omega
      have HBw : Hid (Below w.heap.size w wr) := HB0.out.trans (Hnx.out.mono (by omega))
      have HKc : Hid (Blk wr w.heap.size (c.cells (some b)) 25) := HK0.out.below Hnx.out hwN
      have HMo : Hid (OM wr (N + 1) big Dout) := Hout.out.mono (by unfold big at *; omega)
      have HMb : Hid (OM wr b nb Dout) := om_below hownc Hnx.out (by have := HNe.out; omega)
      clear Hout hownc hrg hcs hrg0
      go_wp2_with (first
        | (refine wpList_load_mid rfl 25 _ rfl N 0 rfl (c.cells (some (N + 1))).toList _ (HK1.out.range 0 _ rfl) Tryz.underlying25 rfl infoConfig ?_)
        | fail)
      refine (open_bad A c (some (N + 1)) Dout _ (HS.out.below HBw.out) (Or.inr ⟨N + 1, big, rfl, HMo.out, Nat.le_refl _⟩) HG.out).mono ?_
      rintro e w3 ⟨rfl, hb3⟩
      have HBw3 : Hid (Below w.heap.size w w3) := HBw.out.trans (hb3.mono HBw.out.size)
      have HKc3 : Hid (Blk w3 w.heap.size (c.cells (some b)) 25) := HKc.out.below hb3 HKc.out.lt
      have HKo3 : Hid (Blk w3 N (c.cells (some (N + 1))) 25) := HK1.out.below hb3 HK1.out.lt
      have HMo3 : Hid (OM w3 (N + 1) big Dout) := om_below HMo.out hb3 HMo.out.lt
      have HMb3 : Hid (OM w3 b nb Dout) := om_below HMb.out hb3 HMb.out.lt
      have hz3 : wr.heap.size ≤ w3.heap.size := hb3.size
      clear hb3
      go_wp2_with (first
        | (refine wpList_load_mid rfl 25 _ rfl w.heap.size 0 rfl (c.cells (some b)).toList _ (HKc3.out.range 0 _ rfl) Tryz.underlying25 rfl infoConfig ?_)
        | fail)
      refine (good_any c (some b) Dout _ (Or.inr ⟨b, nb, rfl, HMb3.out, hnb⟩)).mono ?_
      rintro e w4 ⟨⟨r4, rfl, hr4⟩, hb4⟩
      have hr4' : r4 = false := by cases r4 with | false => rfl | true => exact absurd (hr4.1 rfl) HG.out
      subst hr4'
      clear hr4
      have HBw4 : Hid (Below w.heap.size w w4) := HBw3.out.trans (hb4.mono HBw3.out.size)
      have HKc4 : Hid (Blk w4 w.heap.size (c.cells (some b)) 25) := HKc3.out.below hb4 HKc3.out.lt
      have HKo4 : Hid (Blk w4 N (c.cells (some (N + 1))) 25) := HKo3.out.below hb4 HKo3.out.lt
      have HMo4 : Hid (OM w4 (N + 1) big Dout) := om_below HMo3.out hb4 HMo3.out.lt
      have HMb4 : Hid (OM w4 b nb Dout) := om_below HMb3.out hb4 HMb3.out.lt
      have k41 : w4.cell? ⟨N, 1, none⟩ = some (.map (some (N + 1))) := HKo4.out.cell 1
      have hz4 : w3.heap.size ≤ w4.heap.size := hb4.size
      clear hb4
      go_wp2_with (first
        | (refine wpList_load_mid rfl 25 _ rfl w.heap.size 0 rfl (c.cells (some b)).toList _ (HKc4.out.range 0 _ rfl) Tryz.underlying25 rfl infoConfig ?_)
        | fail)
      refine (same_some c (N + 1) b big nb Dout _ HMo4.out HMb4.out).mono ?_
      rintro e w5 ⟨rfl, hb5⟩
      have HBw5 : Hid (Below w.heap.size w w5) := HBw4.out.trans (hb5.mono HBw4.out.size)
      have HKc5 : Hid (Blk w5 w.heap.size (c.cells (some b)) 25) := HKc4.out.below hb5 HKc4.out.lt
      have HKo5 : Hid (Blk w5 N (c.cells (some (N + 1))) 25) := HKo4.out.below hb5 HKo4.out.lt
      have HMb5 : Hid (OM w5 b nb Dout) := om_below HMb4.out hb5 HMb4.out.lt
      obtain ⟨es5, clock5, hes5, _⟩ := om_below HMo4.out hb5 HMo4.out.lt
      have k51 : w5.cell? ⟨N, 1, none⟩ = some (.map (some (N + 1))) := HKo5.out.cell 1
      have hclr := fun ty => run_clear_map (P := Tryz.prog) Tryz.underlying22 hes5 ty
      have hz5 : w4.heap.size ≤ w5.heap.size := hb5.size
      have hb6 : Below (N + 1) w5 (ChangeMaps.setBlock w5 (N + 1) (.map #[] clock5)) := below_setBlock hes5 _
      generalize hw6 : ChangeMaps.setBlock w5 (N + 1) (.map #[] clock5) = w6 at *
      have HBw6 : Hid (Below w.heap.size w w6) := HBw5.out.trans (hb6.mono (by omega))
      have hz6 : w6.heap.size = w5.heap.size := by rw [← hw6]; simp [ChangeMaps.setBlock]
      have hoth6 : ∀ k, k ≠ N + 1 → w6.heap[k]? = w5.heap[k]? := by rw [← hw6]; exact fun k hk => ChangeMaps.heap_setBlock_other hes5 _ hk
      have HZ6 := hide hz6
      have HO6 := hide hoth6
      clear hw6 hb5 hb6 hes5 k41 hz6 hoth6
      have z0 := HS.out.cell 0 (by omega)
      simp only [gl, List.getD_cons_zero] at z0
      have hlt0 := World.block_lt_of_cell? w _ z0
      have g0 : w6.cell? ⟨_, 0, none⟩ = some (ev A 0) := (HBw6.out.cell (p := ⟨_, 0, none⟩) hlt0).trans z0
      clear z0
      have heq := fun w => eql_same A 0 w
      go_wp2_with fail
      go_ret
      exact ⟨rfl, HBw6.out⟩
    · intro x q kl yd yp w2 cnt2 hkey hlk hv hat hrg2 hlt hg2 hs2 hen
      obtain ⟨x', ex, rfl, hxl⟩ := Maps.keyOf_str Tryz.underlying9 hkey
      obtain rfl : x = x' := encStr_inj ex
      obtain ⟨q', eq', ey, hwq⟩ := plainElem_int_inv Tryz.underlying3 hv
      obtain rfl : q = q' := by simpa using eq'
      obtain ⟨rfl, rfl⟩ : yd = .lit (.int .i64 q) ∧ yp = [] := by simpa using ey
      have hout1 : OM w2 (N + 1) (Maps.size D - cnt) Dout := Hout.out.kept hg2 (by simp)
      have HK2 : Hid (Blk w2 N (c.cells (some (N + 1))) 25) := HK1.out.grown hg2 (by simp; omega)
      have hN2 : N ≤ wc.heap.size := by rw [HNe.out]; exact Nat.le_refl _
      have HB2 : Hid (Below N wc w2) := Hnx.out.grown hg2 (by omega) (fun j hj => by cases hj; omega)
      have HA2 := hide (agree_step (kl := .string x) HA.out Hout.out.isMap trivial hat)
      have HMe : Hid (cnt2 < wr.rangeLeft b (N + 1 + 1)) := by rw [hrg.left_eq]; exact hlt
      have Hrg2 := hide hrg2
      have hc2 : cnt2 < cnt := hlt
      have hNw2 : N < w2.heap.size := HK2.out.lt
      have e1' : w2.cell? ⟨N, 1, none⟩ = some (.map (some (N + 1))) := HK2.out.cell 1
      clear hlk hv hat ex eq' ey hs2 hlt hg2 hrg2 e1
      go_wp2_with (first
        | (at_mapUpdate; refine wpList_mapUpdate_own _ rfl _ _ _ 22 rfl 9 3 lawS Tryz.underlying22 _ (N + 1) _ _ rfl hout1 (by unfold maxLen; unfold big at hnb; omega) _ _ _ rfl rfl hkey _ [] (plainElem_int Tryz.underlying3 hwq) ?_; intro w3 hout3 hg3; go_frame)
        | fail)
      have hrg3 := Hrg2.out.kept hg3 (by simp; omega) (by simp)
      have hN3 : Blk w3 N (c.cells (some (N + 1))) 25 := HK2.out.grown hg3 (by simp)
      have hB3 : Below N wc w3 := HB2.out.grown hg3 (by omega) (fun j hj => by cases hj; omega)
      go_roundw
      case rel => exact ⟨_, cnt2, _, hrg3, by omega, hout3.mono (by omega), HA2.out, hN3, hB3⟩
      case measure => rw [hrg3.left_eq]; exact HMe.out

set_option maxRecDepth 100000 in
set_option maxHeartbeats 4000000 in
theorem opened_bad_nil (z : Int) (n gw : Nat) (hn : n < 2) (hpk : PickIs z n) (A : Nat → Addr) (c : Cfg) (w : World) (hS : Sents.Holds w 260 gl 11 A)
    (hcfg : w.cell? ⟨gw, n * 11, none⟩ = some (.int .i64 c.d) ∧ w.cell? ⟨gw, n * 11 + 1, none⟩ = some (.map (none)) ∧ w.cell? ⟨gw, n * 11 + 2, none⟩ = some (.int .i64 c.q) ∧ w.cell? ⟨gw, n * 11 + 3, none⟩ = some (.int .i64 c.at') ∧ w.cell? ⟨gw, n * 11 + 4, none⟩ = some (.int .i64 c.ba) ∧ w.cell? ⟨gw, n * 11 + 5, none⟩ = some (.int .i64 c.ca) ∧ w.cell? ⟨gw, n * 11 + 6, none⟩ = some (.int .i64 c.ti) ∧ w.cell? ⟨gw, n * 11 + 7, none⟩ = some (.int .i64 c.wi) ∧ w.cell? ⟨gw, n * 11 + 8, none⟩ = some (.int .i64 c.le) ∧ w.cell? ⟨gw, n * 11 + 9, none⟩ = some (.float .f64 c.th) ∧ w.cell? ⟨gw, n * 11 + 10, none⟩ = some (.int .i64 c.op)) :
    Calls Tryz.prog 16 #[.pointer (some ⟨gw, 0, none⟩), .int .i64 z] w fun e w' => e = .returned (.bool true) ∧ Below w.heap.size w w' := by
  obtain ⟨e0, e1, e2, e3, e4, e5, e6, e7, e8, e9, e10⟩ := hcfg
  have HS := hide hS
  have HPk := hide hpk
  have HG : Hid (¬ GoodC c (.map [])) := fun h => absurd h.2.1.1.1 (by simp [Maps.size])
  have hgw := World.block_lt_of_cell? w _ e0
  have hnI : (n : Int) < 2 := by omega
  have hn0 : (0 : Int) ≤ (n : Int) := by omega
  have hnn := fun w => run_neq_map_nil (P := Tryz.prog) w 22 9 3 none Tryz.underlying22
  clear hS hpk
  go_enter Tryz.func16, Tryz.ntmps16
  go_upto_region 1 with fail
  go_cut [5] (fun s5 wx => s5 = .pointer (some ⟨w.heap.size, 0, none⟩) ∧ wx = (w.alloc (.cells (c.cells none) 25)).drew)
  case first =>
    go_region_held3 (fun w' => w'.cell? ⟨gw, n * 11, none⟩ = some (.int .i64 c.d) ∧ w'.cell? ⟨gw, n * 11 + 1, none⟩ = some (.map (none)) ∧ w'.cell? ⟨gw, n * 11 + 2, none⟩ = some (.int .i64 c.q) ∧ w'.cell? ⟨gw, n * 11 + 3, none⟩ = some (.int .i64 c.at') ∧ w'.cell? ⟨gw, n * 11 + 4, none⟩ = some (.int .i64 c.ba) ∧ w'.cell? ⟨gw, n * 11 + 5, none⟩ = some (.int .i64 c.ca) ∧ w'.cell? ⟨gw, n * 11 + 6, none⟩ = some (.int .i64 c.ti) ∧ w'.cell? ⟨gw, n * 11 + 7, none⟩ = some (.int .i64 c.wi) ∧ w'.cell? ⟨gw, n * 11 + 8, none⟩ = some (.int .i64 c.le) ∧ w'.cell? ⟨gw, n * 11 + 9, none⟩ = some (.float .f64 c.th) ∧ w'.cell? ⟨gw, n * 11 + 10, none⟩ = some (.int .i64 c.op)) (go_keep)
      (first
        | (go_at_call 40; refine (HPk.out _).mono ?_; rintro e w1 ⟨rfl, rfl⟩))
    all_goals (go_wp2_with fail; go_meet; exact ⟨rfl, rfl⟩)
  case rest =>
  obtain ⟨rfl, hwc⟩ := hcut
  have hK0 : Blk wc w.heap.size (c.cells none) 25 := by rw [hwc]; exact Blk.new w _ _
  have hz0 : wc.heap.size = w.heap.size + 1 := by rw [hwc]; simp
  have hB0 : Below w.heap.size w wc := by rw [hwc]; exact ((Below.refl _ _).alloc (Nat.le_refl _) _).drew
  clear hwc e0 e1 e2 e3 e4 e5 e6 e7 e8 e9 e10
  obtain ⟨e0, e1, e2, e3, e4, e5, e6, e7, e8, e9, e10⟩ : wc.cell? ⟨w.heap.size, 0, none⟩ = some (.int .i64 c.d) ∧ wc.cell? ⟨w.heap.size, 1, none⟩ = some (.map (none)) ∧ wc.cell? ⟨w.heap.size, 2, none⟩ = some (.int .i64 c.q) ∧ wc.cell? ⟨w.heap.size, 3, none⟩ = some (.int .i64 c.at') ∧ wc.cell? ⟨w.heap.size, 4, none⟩ = some (.int .i64 c.ba) ∧ wc.cell? ⟨w.heap.size, 5, none⟩ = some (.int .i64 c.ca) ∧ wc.cell? ⟨w.heap.size, 6, none⟩ = some (.int .i64 c.ti) ∧ wc.cell? ⟨w.heap.size, 7, none⟩ = some (.int .i64 c.wi) ∧ wc.cell? ⟨w.heap.size, 8, none⟩ = some (.int .i64 c.le) ∧ wc.cell? ⟨w.heap.size, 9, none⟩ = some (.float .f64 c.th) ∧ wc.cell? ⟨w.heap.size, 10, none⟩ = some (.int .i64 c.op) := ⟨hK0.cell 0, hK0.cell 1, hK0.cell 2, hK0.cell 3, hK0.cell 4, hK0.cell 5, hK0.cell 6, hK0.cell 7, hK0.cell 8, hK0.cell 9, hK0.cell 10⟩
  have HK0 := hide hK0
  have HB0 := hide hB0
  have hlt0 : w.heap.size < wc.heap.size := hK0.lt
  have hrg := fun cs => run_range_nilMap (P := Tryz.prog) (wc.alloc (.cells cs 25)) 22 9 3 Tryz.underlying22
  have hnx : ∀ cs ty, (Instr.next (.pointer (some ⟨(wc.alloc (.cells cs 25)).heap.size, 0, none⟩)) false ty).run Tryz.prog ((wc.alloc (.cells cs 25)).alloc (.mapIter none 0 #[] 0)) = _ := fun cs ty => run_next_nilMap _ ty 0 0 #[]
  simp only [World.size_alloc] at hrg hnx
  clear hK0 hB0 hz0
  go_wp2_with fail
  refine wp_loop_rounds 1 ?_
  rw [rounds_succ]
  go_wp2_with fail
  generalize hW : World.alloc (World.alloc wc _) (Obj.mapIter none 0 #[] 0) = wr
  have HKo : Hid (Blk wr wc.heap.size (c.cells none) 25) := by rw [← hW]; exact (Blk.new wc _ _).alloc _
  have hBr : Below wc.heap.size wc wr := by rw [← hW]; exact ((Below.refl _ _).alloc (Nat.le_refl _) _).alloc (by simp) _
  have HKc : Hid (Blk wr w.heap.size (c.cells none) 25) := HK0.out.below hBr hlt0
  have HBw : Hid (Below w.heap.size w wr) := HB0.out.trans (hBr.mono (by omega))
  clear hW hBr hrg hnx e0 e1 e2 e3 e4 e5 e6 e7 e8 e9 e10
  refine (open_bad A c none (.map []) _ (HS.out.below HBw.out) (Or.inl ⟨rfl, rfl⟩) HG.out).mono ?_
  rintro e w3 ⟨rfl, hb3⟩
  have HBw3 : Hid (Below w.heap.size w w3) := HBw.out.trans (hb3.mono HBw.out.size)
  have HKc3 : Hid (Blk w3 w.heap.size (c.cells none) 25) := HKc.out.below hb3 HKc.out.lt
  have HKo3 : Hid (Blk w3 wc.heap.size (c.cells none) 25) := HKo.out.below hb3 HKo.out.lt
  clear hb3
  go_wp2_with (first
    | (refine wpList_load_mid rfl 25 _ rfl w.heap.size 0 rfl (c.cells none).toList _ (HKc3.out.range 0 _ rfl) Tryz.underlying25 rfl infoConfig ?_)
    | fail)
  refine (good_any c none (.map []) _ (Or.inl ⟨rfl, rfl⟩)).mono ?_
  rintro e w4 ⟨⟨r4, rfl, hr4⟩, hb4⟩
  have hr4' : r4 = false := by cases r4 with | false => rfl | true => exact absurd (hr4.1 rfl) HG.out
  subst hr4'
  clear hr4
  have HBw4 : Hid (Below w.heap.size w w4) := HBw3.out.trans (hb4.mono HBw3.out.size)
  have HKc4 : Hid (Blk w4 w.heap.size (c.cells none) 25) := HKc3.out.below hb4 HKc3.out.lt
  have HKo4 : Hid (Blk w4 wc.heap.size (c.cells none) 25) := HKo3.out.below hb4 HKo3.out.lt
  have k41 : w4.cell? ⟨wc.heap.size, 1, none⟩ = some (.map none) := HKo4.out.cell 1
  clear hb4
  go_wp2_with (first
    | (refine wpList_load_mid rfl 25 _ rfl w.heap.size 0 rfl (c.cells none).toList _ (HKc4.out.range 0 _ rfl) Tryz.underlying25 rfl infoConfig ?_)
    | fail)
  refine (same_nil c _).mono ?_
  rintro e w5 ⟨rfl, hb5⟩
  have HBw5 : Hid (Below w.heap.size w w5) := HBw4.out.trans (hb5.mono HBw4.out.size)
  have HKo5 : Hid (Blk w5 wc.heap.size (c.cells none) 25) := HKo4.out.below hb5 HKo4.out.lt
  have k51 : w5.cell? ⟨wc.heap.size, 1, none⟩ = some (.map none) := HKo5.out.cell 1
  have hclr := fun ty => run_clear_nil (P := Tryz.prog) (w := w5) Tryz.underlying22 ty
  clear hb5 k41
  have z0 := HS.out.cell 0 (by omega)
  simp only [gl, List.getD_cons_zero] at z0
  have hltz := World.block_lt_of_cell? w _ z0
  have g0 : w5.cell? ⟨_, 0, none⟩ = some (ev A 0) := (HBw5.out.cell (p := ⟨_, 0, none⟩) hltz).trans z0
  clear z0
  have heq := fun w => eql_same A 0 w
  go_wp2_with fail
  go_ret
  exact ⟨rfl, HBw5.out⟩

theorem opened_bad (z : Int) (n gw : Nat) (hn : n < 2) (hpk : PickIs z n) (A : Nat → Addr) (c : Cfg) (m : Option Nat) (D : DataW Unit) (w : World) (hS : Sents.Holds w 260 gl 11 A) (h : MapAt w m D) (hg : ¬ GoodC c D)
    (hcfg : w.cell? ⟨gw, n * 11, none⟩ = some (.int .i64 c.d) ∧ w.cell? ⟨gw, n * 11 + 1, none⟩ = some (.map (m)) ∧ w.cell? ⟨gw, n * 11 + 2, none⟩ = some (.int .i64 c.q) ∧ w.cell? ⟨gw, n * 11 + 3, none⟩ = some (.int .i64 c.at') ∧ w.cell? ⟨gw, n * 11 + 4, none⟩ = some (.int .i64 c.ba) ∧ w.cell? ⟨gw, n * 11 + 5, none⟩ = some (.int .i64 c.ca) ∧ w.cell? ⟨gw, n * 11 + 6, none⟩ = some (.int .i64 c.ti) ∧ w.cell? ⟨gw, n * 11 + 7, none⟩ = some (.int .i64 c.wi) ∧ w.cell? ⟨gw, n * 11 + 8, none⟩ = some (.int .i64 c.le) ∧ w.cell? ⟨gw, n * 11 + 9, none⟩ = some (.float .f64 c.th) ∧ w.cell? ⟨gw, n * 11 + 10, none⟩ = some (.int .i64 c.op)) :
    Calls Tryz.prog 16 #[.pointer (some ⟨gw, 0, none⟩), .int .i64 z] w fun e w' => e = .returned (.bool true) ∧ Below w.heap.size w w' := by
  rcases h with ⟨rfl, rfl⟩ | ⟨b, nb, rfl, h2, h3⟩
  · exact opened_bad_nil z n gw hn hpk A c w hS hcfg
  · exact opened_bad_some z n gw hn hpk A c b nb D w hS h2 h3 hg hcfg
end Go.Proofs.YtojpjaifhjigfaaGreatDoor
