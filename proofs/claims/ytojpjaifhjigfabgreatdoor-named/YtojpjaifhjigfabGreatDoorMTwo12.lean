/- Steps of the proof (several texts in one): Turns, Pass, Pick, Next. -/
import Derived.Test.YtojpjaifhjigfabGreatDoorMTwo08
import Derived.BigRegion
import Derived.Test.YtojpjaifhjigfabGreatDoorMTwo06
import Derived.Deep.LoopGhost
import Derived.Test.YtojpjaifhjigfabGreatDoorMTwo11
import Derived.Test.YtojpjaifhjigfabGreatDoorMTwo10
import Derived.Deep.OwnRows

/- Whose turn it is: hasAny, allows, pass, pick. -/
namespace Go.Proofs.YtojpjaifhjigfabGreatDoor
open Go.RowKit Go.Maps

/-- A row of numbers that is nobody's. -/
def NumsAt (w : World) (L : Labs) (who g : Nat) (l : List Int) : Prop := Blk w g (intsI l).toArray 3 ∧ ¬ ofP who (L g)
theorem NumsAt.cell {w : World} {L : Labs} {who g : Nat} {l : List Int} (h : NumsAt w L who g l) {i : Nat} (hi : i < l.length) : w.cell? ⟨g, i, none⟩ = some (.int .i64 (l.getD i 0)) := by
  rw [h.1.cell]
  simp [intsI, List.getD_eq_getElem?_getD, hi]
theorem NumsAt.keep {w w' : World} {L L' : Labs} {who g : Nat} {l : List Int} (h : NumsAt w L who g l) (s : Step (ofP who) L w L' w') : NumsAt w' L' who g l := by
  refine ⟨?_, by rw [s.lab g h.1.lt]; exact h.2⟩
  unfold Blk
  rw [s.block g h.1.lt h.2]
  exact h.1
def sizesI (l : List Nat) : List Int := l.map fun n : Nat => (n : Int)
theorem sizesI_getD (l : List Nat) (i : Nat) : (sizesI l).getD i 0 = (l.getD i 0 : Nat) := by
  simp only [sizesI, List.getD_eq_getElem?_getD, List.getElem?_map]
  cases l[i]? <;> simp

set_option maxRecDepth 100000 in
set_option maxHeartbeats 1000000 in
theorem hasAny_any (L : Labs) (who g : Nat) (l : List Nat) (w : World) (h : NumsAt w L who g (sizesI l)) (hl : l.length ≤ 8) : Calls Tryz.prog 124 #[.slice (some ⟨g, 0, none⟩) l.length l.length] w fun e w' => e = .returned (.bool (!l.all (· == 0))) ∧ w' = w := by
  have HC : Hid (∀ i, i < l.length → w.cell? ⟨g, i, none⟩ = some (.int .i64 (l.getD i 0 : Nat))) := fun i hi => by
    rw [h.cell (by simpa [sizesI] using hi), sizesI_getD]
  have hlt := h.1.lt
  clear h
  generalize hn : l.length = n at *
  have Hn := hide hn
  clear hn
  go_enter Tryz.func124, Tryz.ntmps124
  go_wp2_with fail
  go_loop [7] (fun i => ∃ k : Nat, k ≤ n ∧ i = .int .i64 k ∧ (∀ j, j < k → l.getD j 0 = 0)) (fun i => n - (intOf i).toNat)
  case atStart => exact ⟨0, Nat.zero_le _, rfl, fun j hj => by omega⟩
  case round =>
    obtain ⟨k, hk, rfl, hno⟩ := hrel
    have Hno := hide hno
    clear hno
    by_cases hlt : k < n
    · have hltI : (k : Int) < (n : Int) := by omega
      have e1 := HC.out k hlt
      generalize hx : l.getD k 0 = x at *
      have Hx := hide hx
      clear hx
      by_cases h0 : x = 0
      · have H0 := hide h0
        subst h0
        go_wp2_with fail
        go_round
        case rel =>
          refine ⟨k + 1, by omega, by go_num, fun j hj => ?_⟩
          rcases Nat.lt_succ_iff_lt_or_eq.1 hj with h1 | h1
          · exact Hno.out j h1
          · rw [h1]; exact Hx.out
        case measure => simp [intOf]; omega
      · have hpos : 0 < (x : Int) := by omega
        go_wp2_with fail
        go_ret
        refine ⟨ret_bool ?_, rfl⟩
        cases ha : l.all (· == 0) with
        | false => rfl
        | true =>
          exfalso
          have hkl : k < l.length := by rw [Hn.out]; exact hlt
          have := List.all_eq_true.1 ha l[k] (List.getElem_mem hkl)
          have e := Hx.out
          rw [List.getD_eq_getElem?_getD, List.getElem?_eq_getElem hkl] at e
          simp at this e
          omega
    · go_wp2_with fail
      go_ret
      refine ⟨ret_bool ?_, rfl⟩
      have : l.all (· == 0) = true := by
        rw [List.all_eq_true]
        intro a ha
        obtain ⟨j, hj, rfl⟩ := List.getElem_of_mem ha
        have := Hno.out j (by rw [Hn.out] at hj; omega)
        rw [List.getD_eq_getElem?_getD, List.getElem?_eq_getElem hj] at this
        simpa using this
      rw [this]; rfl

/-- A destination's cells, and its credits. -/
theorem OutF.full {w : World} {L : Labs} {who th go k d : Nat} {os : List Out} {o : Out} (h : OutF w L who th go k os d o) (hn : 0 < o.cr.length) : ∃ g gc ck, OutCells w L who th go d o g (some ⟨gc, 0, none⟩) ck ∧ gc ≠ go ∧ gc < w.heap.size ∧ (∀ i, i < o.cr.length → w.cell? ⟨gc, i, none⟩ = some (.int .i64 (o.cr.getD i 0))) ∧ ∀ i, w.frozen? ⟨gc, i, none⟩ = false := by
  obtain ⟨g, ca, ck, hC⟩ := h.cells
  obtain ⟨gc, rfl, hlt, hlab, hcell, hfz⟩ := hC.cr.head hn
  refine ⟨g, gc, ck, hC, fun e => ?_, hlt, fun i hi => ?_, hfz⟩
  · subst e
    rw [hC.lab] at hlab
    simp at hlab
  · exact hcell i _ (by simp [intsI, List.getD_eq_getElem?_getD, hi])

/-- What turns may turn: a destination's cells, and its credits. -/
def rotP (who d : Nat) : Lab → Prop := fun l => l = some (who, .ol) ∨ l = some (who, .cr d)

set_option maxRecDepth 100000 in
set_option maxHeartbeats 1000000 in
theorem allows_any (L : Labs) (who th go k d : Nat) (os : List Out) (o : Out) (size : Nat) (w : World) (h : OutF w L who th go k os d o) (ht : o.turn < o.cr.length) (hl : o.cr.length ≤ 8) :
    Calls Tryz.prog 125 #[.pointer (some ⟨go, d * 10 + 5, none⟩), .int .i64 size] w fun e w' => e = .returned (.bool (decide (0 < size) && decide ((size : Int) ≤ o.cr.getD o.turn 0))) ∧ ∃ n, w' = w.drewN n := by
  obtain ⟨g, gc, ck, hC, hne, hgc, hcell, hfz⟩ := h.full (by omega)
  have c5 : w.cell? ⟨go, d * 10 + 5, none⟩ = some (.int .i64 o.turn) := hC.c5
  have c6 : w.cell? ⟨go, d * 10 + 5 + 1, none⟩ = some (.slice (some ⟨gc, 0, none⟩) o.cr.length ck) := hC.c6
  have e1 := hcell o.turn ht
  have htI : (o.turn : Int) < (o.cr.length : Int) := by omega
  clear hC hcell hfz h
  generalize o.cr.getD o.turn 0 = x at *
  generalize o.cr.length = n at *
  generalize o.turn = t at *
  by_cases h0 : 0 < size
  · have hd : decide (0 < (size : Int)) = true := by simp; omega
    have hd' : decide (0 < size) = true := by simp; omega
    go_enter Tryz.func125, Tryz.ntmps125
    go_wp2_with fail
    go_quiet (fail)
    go_wp2_with fail
    go_ret
    exact ⟨ret_bool (by simp [h0]), _, rfl⟩
  · obtain rfl : size = 0 := by omega
    go_enter Tryz.func125, Tryz.ntmps125
    go_wp2_with fail
    go_quiet (fail)
    go_wp2_with fail
    go_ret
    exact ⟨ret_bool (by simp), _, rfl⟩
end Go.Proofs.YtojpjaifhjigfabGreatDoor

/- pass: the turn goes on. -/
namespace Go.Proofs.YtojpjaifhjigfabGreatDoor
open Go.RowKit Go.Maps

/-- A destination whose turn is t now, its credit greater by the quantum. -/
def Turns.Out3 (o : Out) (t : Nat) (quanta : List Int) : Out := { o with turn := t, cr := o.cr.set t (o.cr.getD t 0 + quanta.getD t 0) }

set_option maxRecDepth 100000 in
set_option maxHeartbeats 2000000 in
theorem pass_any (L : Labs) (who th go k d gq : Nat) (os : List Out) (o : Out) (sizes : List Nat) (quanta : List Int) (w : World) (h : OutF w L who th go k os d o) (hr : Rot o.cr.length (o.turn, o.cr)) (hl : o.cr.length ≤ 8) (hz : ∀ i, sizes.getD i 0 ≤ 64)
    (hq : NumsAt w L who gq quanta) (hql : quanta.length = o.cr.length) (hqb : ∀ i, i < o.cr.length → 64 ≤ quanta.getD i 0 ∧ quanta.getD i 0 ≤ 1000) :
    Calls Tryz.prog 126 #[.pointer (some ⟨go, d * 10 + 5, none⟩), .int .i64 (sizes.getD o.turn 0 : Nat), .slice (some ⟨gq, 0, none⟩) o.cr.length o.cr.length] w fun e w' => e = .returned (.tuple #[]) ∧
      OutF w' L who th go k os d { o with turn := (passR sizes quanta (o.turn, o.cr)).1, cr := (passR sizes quanta (o.turn, o.cr)).2 } ∧ Step (rotP who d) L w L w' := by
  have ht : o.turn < o.cr.length := hr.turn
  obtain ⟨g, gc, ck, hC, hne, hgc, hcell, hfz⟩ := h.full (by omega)
  have c5 : w.cell? ⟨go, d * 10 + 5, none⟩ = some (.int .i64 o.turn) := hC.c5
  have c6 : w.cell? ⟨go, d * 10 + 5 + 1, none⟩ = some (.slice (some ⟨gc, 0, none⟩) o.cr.length ck) := hC.c6
  have e1 := hcell o.turn ht
  have f1 := hfz o.turn
  have HU := hide (h.credit hC o.turn 0)
  have HF := hide h
  have HQ := hide hq
  have HR := hide hr
  have HZ := hide hz
  obtain ⟨n, hn⟩ : ∃ n, o.cr.length = n := ⟨_, rfl⟩
  obtain ⟨t, htt⟩ : ∃ t, o.turn = t := ⟨_, rfl⟩
  obtain ⟨z, hzz⟩ : ∃ z, sizes.getD o.turn 0 = z := ⟨_, rfl⟩
  obtain ⟨o1, ho1⟩ : ∃ o1 : Out, o1 = { o with cr := if z = 0 then o.cr.set o.turn 0 else o.cr } := ⟨_, rfl⟩
  have HT1 : Hid (o1.turn = t) := by rw [ho1]; exact htt
  have HL1 : Hid (o1.cr.length = n) := by rw [ho1]; show (if z = 0 then o.cr.set o.turn 0 else o.cr).length = n; split <;> simp [hn]
  have HQl : Hid (quanta.length = n) := hql.trans hn
  have HQb : Hid (∀ i, i < n → 64 ≤ quanta.getD i 0 ∧ quanta.getD i 0 ≤ 1000) := by rw [← hn]; exact hqb
  have HB1 : Hid (∀ i, i < n → 0 ≤ o1.cr.getD i 0 ∧ o1.cr.getD i 0 ≤ 1063) := fun i hi => by
    rw [ho1]
    show 0 ≤ (if z = 0 then o.cr.set o.turn 0 else o.cr).getD i 0 ∧ (if z = 0 then o.cr.set o.turn 0 else o.cr).getD i 0 ≤ 1063
    have hi' : i < o.cr.length := by omega
    have q0 : 0 ≤ o.cr.getD i 0 := hr.pos i hi'
    have q1 : o.cr.getD i 0 ≤ 1063 := by
      by_cases e : i = o.turn
      · subst e; exact hr.top
      · have : o.cr.getD i 0 ≤ 63 := hr.low i hi' e
        omega
    split
    · rw [getD_set ht]; split <;> omega
    · exact ⟨q0, q1⟩
  have HE1 : Hid (Turns.Out3 o1 ((t + 1) % n) quanta = { o with turn := (passR sizes quanta (o.turn, o.cr)).1, cr := (passR sizes quanta (o.turn, o.cr)).2 }) := by
    rw [ho1]
    simp only [Turns.Out3, passR, hn, htt]
    rw [← htt, hzz]
    rfl
  have Ho1 := hide ho1
  rw [hzz, hn]
  rw [htt] at c5 e1 f1 ht
  rw [hn] at c6 ht hl
  have htI0 : (t : Int) < (n : Int) := by omega
  clear hC hcell hfz h hq hr hz hql hqb hn htt hzz ho1
  by_cases h0 : z = 0
  · have HS0 : Hid (OutF (w.setCell ⟨gc, t, none⟩ (.int .i64 0)) L who th go k os d o1 ∧ Step (rotP who d) L w L (w.setCell ⟨gc, t, none⟩ (.int .i64 0))) := by
      have e : o1 = { o with cr := o.cr.set o.turn 0 } := by rw [Ho1.out, if_pos h0]
      have h2 : o.turn = t := by have h1 := HT1.out; rw [Ho1.out] at h1; exact h1
      rw [e, ← h2]
      exact ⟨HU.out.1, HU.out.2.mono (fun l h => Or.inr h)⟩
    subst h0
    go_enter Tryz.func126, Tryz.ntmps126
    go_upto_region 1 with fail
    go_cut [] (fun wx => OutF wx L who th go k os d o1 ∧ Step (rotP who d) L w L wx)
    case first =>
      go_region
      all_goals
        go_wp2_with fail
        go_meet
        exact ⟨HS0.out.1.drew, HS0.out.2.trans (Step.drew L _)⟩
    case rest =>
    obtain ⟨hF1, hS1⟩ := hcut
    have HF1 := hide hF1
    have HS1 := hide hS1
    generalize hwc : wc = WX at *
    clear hwc hF1 hS1 c5 c6 e1 f1
    go_upto_region 2 with fail
    obtain ⟨g2, gc2, ck2, hC2, hne2, hgc2, hcell2, hfz2⟩ := HF1.out.full (by rw [HL1.out]; omega)
    have b5 : WX.cell? ⟨go, d * 10 + 5, none⟩ = some (.int .i64 (t : Nat)) := by have := hC2.c5; rw [HT1.out] at this; exact this
    have b6 : WX.cell? ⟨go, d * 10 + 5 + 1, none⟩ = some (.slice (some ⟨gc2, 0, none⟩) n ck2) := by have := hC2.c6; rw [HL1.out] at this; exact this
    have z5 := hC2.fz (d * 10 + 5)
    have HU2 : Hid (OutF (WX.setCell ⟨go, d * 10 + 5, none⟩ (.int .i64 ((t + 1) % n : Nat))) L who th go k os d { o1 with turn := (t + 1) % n } ∧ Step (rotP who d) L w L (WX.setCell ⟨go, d * 10 + 5, none⟩ (.int .i64 ((t + 1) % n : Nat)))) := by
      obtain ⟨a, s⟩ := HF1.out.put 5 (.int .i64 ((t + 1) % n : Nat)) { o1 with turn := (t + 1) % n } (by omega) rfl (fun _ _ => rfl)
      exact ⟨a, HS1.out.trans (s.mono (fun l h => Or.inl h))⟩
    clear hC2 hcell2 hfz2
    go_cut [] (fun wx => OutF wx L who th go k os d { o1 with turn := (t + 1) % n } ∧ Step (rotP who d) L w L wx)
    case first =>
      have E1 : Hid (((t : Int) + 1) % (n : Int) = ((t + 1) % n : Nat)) := by show _ = _; rw [Int.natCast_emod]; simp
      have hn0 : ¬ (n = 0) := by omega
      go_region
      all_goals
        go_wp2_with fail
        go_meet
        first
          | exact ⟨HU2.out.1.drew, HU2.out.2.trans (Step.drew L _)⟩
          | (rw [E1.out]; exact ⟨HU2.out.1.drew, HU2.out.2.trans (Step.drew L _)⟩)
    case rest =>
    obtain ⟨hF3, hS3⟩ := hcut
    have HF3 := hide hF3
    have HS3 := hide hS3
    have ht2 : (t + 1) % n < n := Nat.mod_lt _ (by omega)
    obtain ⟨g3, gc3, ck3, hC3, hne3, hgc3, hcell3, hfz3⟩ := hF3.full (by show 0 < o1.cr.length; rw [HL1.out]; omega)
    generalize hwc : wc = WY at *
    clear hwc hF3 hS3
    have d5 : WY.cell? ⟨go, d * 10 + 5, none⟩ = some (.int .i64 ((t + 1) % n : Nat)) := hC3.c5
    have d6 : WY.cell? ⟨go, d * 10 + 5 + 1, none⟩ = some (.slice (some ⟨gc3, 0, none⟩) n ck3) := by have : _ = some (Value.slice _ o1.cr.length _) := hC3.c6; rw [HL1.out] at this; exact this
    have dc : WY.cell? ⟨gc3, (t + 1) % n, none⟩ = some (.int .i64 (o1.cr.getD ((t + 1) % n) 0)) := hcell3 _ (by show _ < o1.cr.length; rw [HL1.out]; exact ht2)
    have zc := hfz3 ((t + 1) % n)
    have dq : WY.cell? ⟨gq, (t + 1) % n, none⟩ = some (.int .i64 (quanta.getD ((t + 1) % n) 0)) := (HQ.out.keep (HS3.out.mono (fun l h => by rcases h with rfl | rfl <;> exact ⟨_, rfl⟩))).cell (by rw [HQl.out]; exact ht2)
    have HU4 := hide (HF3.out.credit hC3 ((t + 1) % n) (o1.cr.getD ((t + 1) % n) 0 + quanta.getD ((t + 1) % n) 0))
    have hxx := HB1.out _ ht2
    have hqq := HQb.out _ ht2
    clear hC3 hcell3 hfz3 b5 b6 z5 hgc2 hne2
    have HEnd : Hid (Turns.Out3 o1 ((t + 1) % n) quanta = { o with turn := (passR sizes quanta (o.turn, o.cr)).1, cr := (passR sizes quanta (o.turn, o.cr)).2 }) := HE1.out
    generalize hx : o1.cr.getD ((t + 1) % n) 0 = x at *
    generalize hq : quanta.getD ((t + 1) % n) 0 = q at *
    generalize ht' : (t + 1) % n = t' at *
    have Hxq := hide (And.intro hx hq)
    clear hx hq ht'
    have htI : (t' : Int) < (n : Int) := by omega
    go_wp2_with fail
    go_region
    all_goals
      go_wp2_with fail
      first | go_end0 | refine bodyPost_ret (results_none rfl _ _ _) rfl ?_
      refine ⟨rfl, ?_, HS3.out.trans ((HU4.out.2.mono (fun l h => Or.inr h)).trans (Step.drew L _))⟩
      have := HU4.out.1.drew
      rw [← HEnd.out, Turns.Out3, Hxq.out.1, Hxq.out.2]
      exact this
  · have h0' : ¬ ((z : Int) = 0) := by omega
    have HF1 : Hid (OutF w L who th go k os d o1) := by
      rw [Ho1.out, if_neg h0]
      exact HF.out
    have HS1 : Hid (Step (rotP who d) L w L w) := Step.refl _ _ _
    go_enter Tryz.func126, Tryz.ntmps126
    clear c5 c6 e1 f1
    go_upto_region 2 with fail
    obtain ⟨g2, gc2, ck2, hC2, hne2, hgc2, hcell2, hfz2⟩ := HF1.out.full (by rw [HL1.out]; omega)
    have b5 : w.cell? ⟨go, d * 10 + 5, none⟩ = some (.int .i64 (t : Nat)) := by have := hC2.c5; rw [HT1.out] at this; exact this
    have b6 : w.cell? ⟨go, d * 10 + 5 + 1, none⟩ = some (.slice (some ⟨gc2, 0, none⟩) n ck2) := by have := hC2.c6; rw [HL1.out] at this; exact this
    have z5 := hC2.fz (d * 10 + 5)
    have HU2 : Hid (OutF (w.setCell ⟨go, d * 10 + 5, none⟩ (.int .i64 ((t + 1) % n : Nat))) L who th go k os d { o1 with turn := (t + 1) % n } ∧ Step (rotP who d) L w L (w.setCell ⟨go, d * 10 + 5, none⟩ (.int .i64 ((t + 1) % n : Nat)))) := by
      obtain ⟨a, s⟩ := HF1.out.put 5 (.int .i64 ((t + 1) % n : Nat)) { o1 with turn := (t + 1) % n } (by omega) rfl (fun _ _ => rfl)
      exact ⟨a, HS1.out.trans (s.mono (fun l h => Or.inl h))⟩
    clear hC2 hcell2 hfz2
    go_cut [] (fun wx => OutF wx L who th go k os d { o1 with turn := (t + 1) % n } ∧ Step (rotP who d) L w L wx)
    case first =>
      have E1 : Hid (((t : Int) + 1) % (n : Int) = ((t + 1) % n : Nat)) := by show _ = _; rw [Int.natCast_emod]; simp
      have hn0 : ¬ (n = 0) := by omega
      go_region
      all_goals
        go_wp2_with fail
        go_meet
        first
          | exact ⟨HU2.out.1.drew, HU2.out.2.trans (Step.drew L _)⟩
          | (rw [E1.out]; exact ⟨HU2.out.1.drew, HU2.out.2.trans (Step.drew L _)⟩)
    case rest =>
    obtain ⟨hF3, hS3⟩ := hcut
    have HF3 := hide hF3
    have HS3 := hide hS3
    have ht2 : (t + 1) % n < n := Nat.mod_lt _ (by omega)
    obtain ⟨g3, gc3, ck3, hC3, hne3, hgc3, hcell3, hfz3⟩ := hF3.full (by show 0 < o1.cr.length; rw [HL1.out]; omega)
    generalize hwc : wc = WY at *
    clear hwc hF3 hS3
    have d5 : WY.cell? ⟨go, d * 10 + 5, none⟩ = some (.int .i64 ((t + 1) % n : Nat)) := hC3.c5
    have d6 : WY.cell? ⟨go, d * 10 + 5 + 1, none⟩ = some (.slice (some ⟨gc3, 0, none⟩) n ck3) := by have : _ = some (Value.slice _ o1.cr.length _) := hC3.c6; rw [HL1.out] at this; exact this
    have dc : WY.cell? ⟨gc3, (t + 1) % n, none⟩ = some (.int .i64 (o1.cr.getD ((t + 1) % n) 0)) := hcell3 _ (by show _ < o1.cr.length; rw [HL1.out]; exact ht2)
    have zc := hfz3 ((t + 1) % n)
    have dq : WY.cell? ⟨gq, (t + 1) % n, none⟩ = some (.int .i64 (quanta.getD ((t + 1) % n) 0)) := (HQ.out.keep (HS3.out.mono (fun l h => by rcases h with rfl | rfl <;> exact ⟨_, rfl⟩))).cell (by rw [HQl.out]; exact ht2)
    have HU4 := hide (HF3.out.credit hC3 ((t + 1) % n) (o1.cr.getD ((t + 1) % n) 0 + quanta.getD ((t + 1) % n) 0))
    have hxx := HB1.out _ ht2
    have hqq := HQb.out _ ht2
    clear hC3 hcell3 hfz3 b5 b6 z5 hgc2 hne2
    have HEnd : Hid (Turns.Out3 o1 ((t + 1) % n) quanta = { o with turn := (passR sizes quanta (o.turn, o.cr)).1, cr := (passR sizes quanta (o.turn, o.cr)).2 }) := HE1.out
    generalize hx : o1.cr.getD ((t + 1) % n) 0 = x at *
    generalize hq : quanta.getD ((t + 1) % n) 0 = q at *
    generalize ht' : (t + 1) % n = t' at *
    have Hxq := hide (And.intro hx hq)
    clear hx hq ht'
    have htI : (t' : Int) < (n : Int) := by omega
    go_wp2_with fail
    go_region
    all_goals
      go_wp2_with fail
      first | go_end0 | refine bodyPost_ret (results_none rfl _ _ _) rfl ?_
      refine ⟨rfl, ?_, HS3.out.trans ((HU4.out.2.mono (fun l h => Or.inr h)).trans (Step.drew L _))⟩
      have := HU4.out.1.drew
      rw [← HEnd.out, Turns.Out3, Hxq.out.1, Hxq.out.2]
      exact this
end Go.Proofs.YtojpjaifhjigfabGreatDoor

/- pick: who goes now. -/
namespace Go.Proofs.YtojpjaifhjigfabGreatDoor
open Go.RowKit Go.Maps

theorem NumsAt.drewN {w : World} {L : Labs} {who g : Nat} {l : List Int} (h : NumsAt w L who g l) (n : Nat) : NumsAt (w.drewN n) L who g l := ⟨h.1.drewN n, h.2⟩

/-- What pick leaves. -/
def Picked (w : World) (L : Labs) (who th go k : Nat) (os : List Out) (d : Nat) (o : Out) (e : Ending) (w' : World) : Prop := e = .returned (.int .i64 o.turn) ∧ OutF w' L who th go k os d o ∧ Step (rotP who d) L w L w'

set_option maxRecDepth 100000 in
set_option maxHeartbeats 2000000 in
theorem pick_none (L : Labs) (who go d gs gq n : Nat) (sizes : List Nat) (w : World) (hs : NumsAt w L who gs (sizesI sizes)) (hsl : sizes.length = n) (hn : n ≤ 8) (ha : sizes.all (· == 0) = true) :
    Calls Tryz.prog 111 #[.pointer (some ⟨go, d * 10 + 5, none⟩), .slice (some ⟨gs, 0, none⟩) n n, .slice (some ⟨gq, 0, none⟩) n n] w fun e w' => e = .returned (.int .i64 (-1)) ∧ w' = w := by
  have H := hide (hasAny_any L who gs sizes w hs (by omega))
  rw [hsl, ha] at H
  clear hs ha
  go_enter Tryz.func111, Tryz.ntmps111
  go_wp2_with fail
  refine H.out.mono ?_
  rintro e w1 ⟨rfl, rfl⟩
  go_wp2_with fail
  go_ret
  exact ⟨rfl, rfl⟩

set_option maxRecDepth 100000 in
set_option maxHeartbeats 2000000 in
theorem pick_some (L : Labs) (who th go k d gs gq n : Nat) (os : List Out) (o : Out) (sizes : List Nat) (quanta : List Int) (w : World) (h : OutF w L who th go k os d o) (hr : Rot n (o.turn, o.cr)) (hl : n ≤ 8) (hz : ∀ i, sizes.getD i 0 ≤ 64)
    (hs : NumsAt w L who gs (sizesI sizes)) (hsl : sizes.length = n) (hq : NumsAt w L who gq quanta) (hql : quanta.length = n) (hqb : ∀ i, i < n → 64 ≤ quanta.getD i 0 ∧ quanta.getD i 0 ≤ 1000) (ha : sizes.all (· == 0) = false) :
    Calls Tryz.prog 111 #[.pointer (some ⟨go, d * 10 + 5, none⟩), .slice (some ⟨gs, 0, none⟩) n n, .slice (some ⟨gq, 0, none⟩) n n] w fun e w' => Picked w L who th go k os d (o.picked sizes quanta) e w' := by
  have hcn : o.cr.length = n := hr.len
  have H := hide (hasAny_any L who gs sizes w hs (by omega))
  rw [hsl, ha] at H
  obtain ⟨fin, hfin⟩ : ∃ fin, fin = turnsR sizes quanta n (o.turn, o.cr) := ⟨_, rfl⟩
  have HFound : Hid (allowsR sizes fin.1 fin.2 = true) := by
    obtain ⟨x, hx, hx0⟩ : ∃ x ∈ sizes, (x == 0) = false := by
      have := List.all_eq_false.1 ha
      obtain ⟨x, hx, hx0⟩ := this
      exact ⟨x, hx, by simpa using hx0⟩
    obtain ⟨i, hi, rfl⟩ := List.getElem_of_mem hx
    rw [hfin]
    refine turnsR_found hz hqb hr (i := i) (by omega) ?_
    rw [List.getD_eq_getElem?_getD, List.getElem?_eq_getElem hi]
    simp at hx0 ⊢
    omega
  have HEnd : Hid (o.picked sizes quanta = { o with turn := fin.1, cr := fin.2.set fin.1 (fin.2.getD fin.1 0 - sizes.getD fin.1 0) }) := by
    rw [hfin]
    show Out.picked o sizes quanta = _
    simp only [Out.picked, hcn]
  have HAt : Hid (∃ t cr, Rot n (t, cr) ∧ turnsR sizes quanta n (t, cr) = fin ∧ OutF w L who th go k os d { o with turn := t, cr := cr } ∧ Step (rotP who d) L w L w) := ⟨o.turn, o.cr, hr, hfin.symm, h, Step.refl _ _ _⟩
  have HS := hide hs
  have HQ := hide hq
  have HZ := hide hz
  have Hqb := hide hqb
  have HSl := hide hsl
  have HQl := hide hql
  have h0 : 0 < n := by have : o.turn < n := hr.turn; omega
  clear h hr hs hq hz hqb ha hfin hcn hsl hql
  go_enter Tryz.func111, Tryz.ntmps111
  go_wp2_with fail
  refine H.out.mono ?_
  rintro e w1 ⟨rfl, hw1⟩
  subst hw1
  clear H
  go_wp2_with fail
  go_loopg [] n (fun m wr => ∃ t cr, Rot n (t, cr) ∧ turnsR sizes quanta m (t, cr) = fin ∧ OutF wr L who th go k os d { o with turn := t, cr := cr } ∧ Step (rotP who d) L w1 L wr)
  case atStart => exact HAt.out
  case round =>
    obtain ⟨t, cr, hR, hT, hF, hSt⟩ := hrel
    have HR := hide hR
    have HT := hide hT
    have HF := hide hF
    have HSt := hide hSt
    have ht : t < n := hR.turn
    have hcl : cr.length = n := hR.len
    have Hcl := hide hcl
    have hSt2 : Step (ofP who) L w1 L wr := hSt.mono (fun l h => by rcases h with rfl | rfl <;> exact ⟨_, rfl⟩)
    have HSw := hide (HS.out.keep hSt2)
    have HQw := hide (HQ.out.keep hSt2)
    have e1 : wr.cell? ⟨gs, t, none⟩ = some (.int .i64 (sizes.getD t 0 : Nat)) := by
      rw [HSw.out.cell (by simp [sizesI, HSl.out]; exact ht), sizesI_getD]
    obtain ⟨g, gc, ck, hC, hne, hgc, hcell, hfz⟩ := hF.full (by show 0 < cr.length; omega)
    have c5 : wr.cell? ⟨go, d * 10 + 5, none⟩ = some (.int .i64 (t : Nat)) := hC.c5
    have c6 : wr.cell? ⟨go, d * 10 + 5 + 1, none⟩ = some (.slice (some ⟨gc, 0, none⟩) n ck) := by have : _ = some (Value.slice _ cr.length _) := hC.c6; rw [hcl] at this; exact this
    have ec : wr.cell? ⟨gc, t, none⟩ = some (.int .i64 (cr.getD t 0)) := hcell t (by show t < cr.length; omega)
    have zc := hfz t
    have htI : (t : Int) < (n : Int) := by omega
    have HAl := hide (fun w2 h2 => allows_any L who th go k d os { o with turn := t, cr := cr } (sizes.getD t 0) w2 h2 (by show t < cr.length; omega) (by show cr.length ≤ 8; omega))
    have hz64 := HZ.out t
    have hcp : 0 ≤ cr.getD t 0 := hR.pos t ht
    have hct : cr.getD t 0 ≤ 1063 := hR.top
    have HCr := hide (hF.credit hC t (cr.getD t 0 - (sizes.getD t 0 : Nat)))
    clear hR hT hF hSt hSt2 hC hcell hfz hcl
    by_cases hal : allowsR sizes t cr = true
    · have hfe : fin = (t, cr) := by rw [← HT.out, turnsR_allows (s := (t, cr)) hal]
      have HEx : Hid (o.picked sizes quanta = { o with turn := t, cr := cr.set t (cr.getD t 0 - sizes.getD t 0) }) := by
        show _ = _
        rw [HEnd.out, hfe]
      have hal' : (decide (0 < sizes.getD t 0) && decide ((sizes.getD t 0 : Int) ≤ cr.getD t 0)) = true := hal
      rw [hal'] at HAl
      clear hal hal' hfe
      generalize hzz : sizes.getD t 0 = z at *
      generalize hxx : cr.getD t 0 = x at *
      clear hzz hxx
      go_wp2_with fail
      refine (HAl.out _ HF.out).mono ?_
      rintro e w2 ⟨rfl, nq, rfl⟩
      go_wp2_with fail
      go_region
      all_goals
        go_wp2_with fail
        go_ret
        rw [HEx.out]
        refine ⟨rfl, ?_, HSt.out.trans ((HCr.out.2.mono (fun l h => Or.inr h)).trans (Step.drewN L _ (nq + 1)))⟩
        exact HCr.out.1.drewN (nq + 1)
    · have hal' : (decide (0 < sizes.getD t 0) && decide ((sizes.getD t 0 : Int) ≤ cr.getD t 0)) = false := by simpa [allowsR] using hal
      have Hal : Hid (allowsR sizes t cr = false) := by show _ = _; simpa using hal
      rw [hal'] at HAl
      have HPs := hide (fun w2 h2 q2 => pass_any L who th go k d gq os { o with turn := t, cr := cr } sizes quanta w2 h2 (by show Rot cr.length (t, cr); rw [Hcl.out]; exact HR.out) (by show cr.length ≤ 8; rw [Hcl.out]; exact hl) HZ.out q2 (by show quanta.length = cr.length; rw [Hcl.out]; exact HQl.out) (by show ∀ i, i < cr.length → _; rw [Hcl.out]; exact Hqb.out))
      simp only [Hcl.out] at HPs
      clear hal hal' HCr
      generalize hzz : sizes.getD t 0 = z at *
      have Hzz := hide hzz
      clear hzz
      go_wp2_with fail
      refine (HAl.out _ HF.out).mono ?_
      rintro e w2 ⟨rfl, nq, rfl⟩
      go_wp2_with fail
      refine (HPs.out _ (HF.out.drewN nq) (HQw.out.drewN nq)).mono ?_
      rintro e w3 ⟨rfl, hF3, hS3⟩
      have HF3 := hide hF3
      have HS3 := hide hS3
      clear hF3 hS3
      go_wp2_with fail
      have hgk : 0 < gk := by
        rcases Nat.eq_zero_or_pos gk with e | e
        · exfalso
          subst e
          have e1 := HT.out
          simp only [turnsR] at e1
          have := HFound.out
          rw [← e1] at this
          have h2 := Hal.out
          simp only at this
          rw [this] at h2
          cases h2
        · exact e
      go_roundg (gk - 1)
      case measure => omega
      case rel =>
        have hp := (HR.out.pass HZ.out Hqb.out Hal.out).1
        refine ⟨(passR sizes quanta (t, cr)).1, (passR sizes quanta (t, cr)).2, hp, ?_, HF3.out, HSt.out.trans ((Step.drewN L wr nq).trans HS3.out)⟩
        have e1 := HT.out
        rw [show gk = gk - 1 + 1 by omega] at e1
        unfold turnsR at e1
        rw [Hal.out] at e1
        simpa using e1
end Go.Proofs.YtojpjaifhjigfabGreatDoor

/- next: the batch that goes to a destination now. -/
namespace Go.Proofs.YtojpjaifhjigfabGreatDoor
open Go.RowKit Go.Maps

/-- A row of numbers that is filled from its beginning on. -/
def part0 (l : List Int) (k : Nat) : List Int := l.take k ++ List.replicate (l.length - k) 0
theorem part0_zero (l : List Int) : part0 l 0 = List.replicate l.length 0 := by simp [part0]
theorem part0_all (l : List Int) : part0 l l.length = l := by simp [part0]
theorem part0_length (l : List Int) (k : Nat) (h : k ≤ l.length) : (part0 l k).length = l.length := by simp [part0]; omega
theorem part0_set (l : List Int) (k : Nat) (v : Int) (h : l[k]? = some v) : (part0 l k).set k v = part0 l (k + 1) := by
  have hk : k < l.length := (List.getElem?_eq_some_iff.1 h).1
  have hv : l[k] = v := (List.getElem?_eq_some_iff.1 h).2
  unfold part0
  rw [List.take_succ_eq_append_getElem hk, hv]
  obtain ⟨m, hm⟩ : ∃ m, l.length - k = m + 1 := ⟨l.length - k - 1, by omega⟩
  rw [hm, List.replicate_succ, List.set_append_right _ _ (by simp; omega), show l.length - (k + 1) = m by omega]
  simp [Nat.min_eq_left (Nat.le_of_lt hk)]
theorem made_part0 (l : List Int) (n : Nat) (h : l.length = n) : madeCells #[Value.int .i64 0] n = (intsI (part0 l 0)).toArray := by
  apply Array.ext'
  rw [toList_madeCells_one, part0_zero, h]
  simp [intsI]
theorem Blk.setInt {w : World} {g k : Nat} {l : List Int} {v : Int} (h : Blk w g (intsI l).toArray 3) : Blk (w.setCell ⟨g, k, none⟩ (.int .i64 v)) g (intsI (l.set k v)).toArray 3 := by
  have := h.set k (.int .i64 v)
  have e : (intsI l).toArray.setIfInBounds k (.int .i64 v) = (intsI (l.set k v)).toArray := by
    apply Array.ext'
    simp [intsI, List.map_set]
  rw [e] at this
  exact this

/-- What next and sendOut want of an agent. -/
structure SendOk (M : Ag) : Prop where
  c : M.c.Ok
  nl : M.ns.length ≤ 8
  sl : ∀ x ∈ M.ns, x.length ≤ 16
  hs : ∀ x ∈ M.ns, Maps.has M.D (.string x) = true
  q : ∀ x ∈ M.ns, 64 ≤ qOf M.D x ∧ qOf M.D x ≤ 1000
  rl : M.rt.length = M.bs.length
  bl : ∀ b ∈ M.bs, b.body.length ≤ 63
  b120 : M.bs.length ≤ 120
  n0 : 0 ≤ M.now
  n1 : M.now ≤ 1000000000000000000
  o4 : M.os.length ≤ 4

theorem SendOk.sizes_le {M : Ag} (h : SendOk M) (d i : Nat) : (M.sizes d).getD i 0 ≤ 64 := by
  unfold Ag.sizes
  rw [List.getD_eq_getElem?_getD, List.getElem?_map]
  cases M.ns[i]? with
  | none => simp
  | some x =>
    simp only [Option.map_some, Option.getD_some]
    unfold Ag.size
    split
    · omega
    · split
      · omega
      · rename_i p ps _ _
        cases hb : M.bs[p]? with
        | none => simp
        | some b => have := h.bl b (List.mem_of_getElem? hb); simp; omega
theorem SendOk.quanta_bd {M : Ag} (h : SendOk M) : ∀ i, i < M.ns.length → 64 ≤ M.quanta.getD i 0 ∧ M.quanta.getD i 0 ≤ 1000 := fun i hi => by
  unfold Ag.quanta
  rw [List.getD_eq_getElem?_getD, List.getElem?_map, List.getElem?_eq_getElem hi]
  exact h.q _ (List.getElem_mem hi)

theorem qOf_at {D : DataW Unit} {x : List UInt8} {c : Int} (h : At D x c) : qOf D x = c := by unfold qOf; rw [h]

/-- The batch that is named, at a destination whose turn has gone on. -/
def Ag.named (M : Ag) (d : Nat) (o : Out) : Nat := (pend M.bs d (M.ns.getD (o.picked (M.sizes d) M.quanta).turn [])).headD 0

theorem picked_turn (o : Out) (sizes : List Nat) (quanta : List Int) : (o.picked sizes quanta).turn = (turnsR sizes quanta o.cr.length (o.turn, o.cr)).1 := rfl
theorem picked_head {M : Ag} {d : Nat} {o : Out} (h : SendOk M) (hr : Rot M.ns.length (o.turn, o.cr)) (hall : (M.sizes d).all (· == 0) = false) :
    ∃ x p ps, M.ns[(o.picked (M.sizes d) M.quanta).turn]? = some x ∧ pend M.bs d x = p :: ps ∧ M.named d o = p := by
  have hlen : o.cr.length = M.ns.length := hr.len
  have hal : allowsR (M.sizes d) (turnsR (M.sizes d) M.quanta M.ns.length (o.turn, o.cr)).1 (turnsR (M.sizes d) M.quanta M.ns.length (o.turn, o.cr)).2 = true := by
    obtain ⟨y, hy, hy0⟩ := List.all_eq_false.1 hall
    obtain ⟨i, hi, rfl⟩ := List.getElem_of_mem hy
    refine turnsR_found (h.sizes_le d) h.quanta_bd hr (i := i) (by simpa [Ag.sizes] using hi) ?_
    rw [List.getD_eq_getElem?_getD, List.getElem?_eq_getElem hi]
    simp at hy0 ⊢
    omega
  have hrt := turnsR_rot (h.sizes_le d) h.quanta_bd M.ns.length (o.turn, o.cr) hr
  have ht : (o.picked (M.sizes d) M.quanta).turn = (turnsR (M.sizes d) M.quanta M.ns.length (o.turn, o.cr)).1 := by rw [picked_turn, hlen]
  have hlt : (o.picked (M.sizes d) M.quanta).turn < M.ns.length := by rw [ht]; exact hrt.turn
  have hpos : 0 < (M.sizes d).getD (o.picked (M.sizes d) M.quanta).turn 0 := by
    rw [ht]
    unfold allowsR at hal
    simp only [Bool.and_eq_true, decide_eq_true_eq] at hal
    exact hal.1
  obtain ⟨x, hx⟩ : ∃ x, M.ns[(o.picked (M.sizes d) M.quanta).turn]? = some x := ⟨_, List.getElem?_eq_getElem hlt⟩
  have hsz' : ∀ t : Nat, M.ns[t]? = some x → 0 < (M.sizes d).getD t 0 → 0 < M.size d x := fun t h1 h2 => by
    unfold Ag.sizes at h2
    rw [List.getD_eq_getElem?_getD, List.getElem?_map, h1] at h2
    simpa using h2
  have hsz := hsz' _ hx hpos
  have hnm : M.named d o = (pend M.bs d x).headD 0 := by
    unfold Ag.named
    rw [List.getD_eq_getElem?_getD, hx]
    rfl
  cases hp : pend M.bs d x with
  | nil => unfold Ag.size at hsz; rw [hp] at hsz; simp at hsz
  | cons p ps => exact ⟨x, p, ps, hx, hp, by rw [hnm, hp]; rfl⟩

set_option maxRecDepth 100000 in
set_option maxHeartbeats 4000000 in
theorem next_core (L : Labs) (who g d : Nat) (M : Ag) (o : Out) (w : World) (hLn : ∀ k, w.heap.size ≤ k → L k = none) (hA : AgentAt w L who g M) (h : SendOk M) (ho : M.os[d]? = some o) (hr : Rot M.ns.length (o.turn, o.cr)) (hd4 : d < 4) :
    Calls Tryz.prog 92 #[.pointer (some ⟨g, 0, none⟩), .int .i64 d] w fun e w' =>
      ((M.sizes d).all (· == 0) = true → e = .returned (.int .i64 (-1)) ∧ AgentAt w' L who g M ∧ Step (ofP who) L w L w' ∧ w'.cell? ⟨g, 18, none⟩ = w.cell? ⟨g, 18, none⟩) ∧
      ((M.sizes d).all (· == 0) = false → e = .returned (.int .i64 (M.named d o)) ∧ AgentAt w' L who g { M with os := M.os.set d (o.picked (M.sizes d) M.quanta) } ∧ Step (ofP who) L w L w' ∧ w'.cell? ⟨g, 18, none⟩ = w.cell? ⟨g, 18, none⟩) := by
  have HA := hide hA
  have H := hide h
  have Hrot := hide hr
  have hnl := h.nl
  obtain ⟨bq, bm, cn, tv, dv, nv, rv, ov, hAt⟩ := hA
  obtain ⟨na, nk, rfl, _⟩ := hAt.nm.shape
  have hgl := hAt.blk.1.lt
  have c15 : w.cell? ⟨g, 15, none⟩ = some (.slice na M.ns.length nk) := hAt.blk.1.cell 15
  have HAt := hide hAt
  have HLn := hide hLn
  have Ho := hide ho
  have hmk := fun w => run_make_row' (P := Tryz.prog) 22 3 (.int .i64 0) 8 Tryz.underlying22 infoIntE rfl .i64 .i64 M.ns.length (by omega) (by omega) w
  have hszl : (sizesI (M.sizes d)).length = M.ns.length := by simp [sizesI, Ag.sizes]
  have hqul : M.quanta.length = M.ns.length := by simp [Ag.quanta]
  have HM1 := hide (made_part0 (sizesI (M.sizes d)) M.ns.length hszl)
  have HM2 := hide (made_part0 M.quanta M.ns.length hqul)
  generalize hn : M.ns.length = n at *
  have Hn := hide hn
  have Hszl := hide hszl
  have Hqul := hide hqul
  clear hAt h ho hr hLn hn hszl hqul
  go_enter Tryz.func92, Tryz.ntmps92
  go_wp2_with fail
  generalize hV : World.alloc (World.alloc w _) _ = V
  have hBV : Below w.heap.size w V := by rw [← hV]; exact ((Below.refl _ _).alloc (Nat.le_refl _) _).alloc (by simp) _
  have hS0 : Blk V w.heap.size (intsI (part0 (sizesI (M.sizes d)) 0)).toArray 3 := by rw [← hV, ← HM1.out]; exact (Blk.new w _ _).alloc _
  have hQ0 : Blk V (w.heap.size + 1) (intsI (part0 M.quanta 0)).toArray 3 := by rw [← hV, ← HM2.out]; exact Blk.made (by simp) _ _
  have HAtS : Hid (Blk V w.heap.size (intsI (part0 (sizesI (M.sizes d)) 0)).toArray 3 ∧ Blk V (w.heap.size + 1) (intsI (part0 M.quanta 0)).toArray 3 ∧ Below w.heap.size w V) := ⟨hS0, hQ0, hBV⟩
  clear hV hBV hS0 hQ0 hmk
  go_loopw [27] (fun i wr => ∃ k : Nat, k ≤ n ∧ i = .int .i64 k ∧ Blk wr w.heap.size (intsI (part0 (sizesI (M.sizes d)) k)).toArray 3 ∧ Blk wr (w.heap.size + 1) (intsI (part0 M.quanta k)).toArray 3 ∧ Below w.heap.size w wr) (fun i _ => n - (intOf i).toNat)
  case atStart => exact ⟨0, Nat.zero_le _, rfl, HAtS.out⟩
  case round =>
    obtain ⟨k, hk, rfl, hSz, hQu, hnx⟩ := hrel
    have HSz := hide hSz
    have HQu := hide hQu
    have Hnx := hide hnx
    clear hSz hQu hnx
    by_cases hlt : k < n
    · have hltI : (k : Int) < (n : Int) := by omega
      obtain ⟨x, hx⟩ : ∃ x, M.ns[k]? = some x := ⟨_, List.getElem?_eq_getElem (by rw [Hn.out]; exact hlt)⟩
      have hxm := List.mem_of_getElem? hx
      obtain ⟨gn, rfl, hgn, _, hcn, _⟩ := (show RowAt w L (some (who, .nm)) 9 1 (.slice na n nk) n (M.ns.map encStr) by have := HAt.out.nm; rw [Hn.out] at this; exact this).head (by omega)
      have en : wr.cell? ⟨gn, k, none⟩ = some (encStr x) := (Hnx.out.cell (p := ⟨gn, k, none⟩) hgn).trans (hcn k _ (strs_get hx))
      have HSG := hide (fun W (hW : Below w.heap.size w W) => sizeToGo_any L who g M d x W (HA.out.keep (Step.of_below (p := fun _ => False) hW) (fun _ h => h)) (laneOk_small (by omega) (by omega) (by have := H.out.sl x hxm; unfold maxLen; omega)) H.out.rl H.out.bl)
      obtain ⟨q, hAtq, hlook⟩ := look_at HAt.out.cm.1 (H.out.hs x hxm)
      have hqe := qOf_at hAtq
      have hs1 : (sizesI (M.sizes d))[k]? = some ((M.size d x : Nat) : Int) := by simp [sizesI, Ag.sizes, hx]
      have hq1 : M.quanta[k]? = some q := by simp [Ag.quanta, hx, hqe]
      have HSet1 := hide (part0_set _ k _ hs1)
      have HSet2 := hide (part0_set _ k _ hq1)
      have Hlook := hide hlook
      have hcml := HAt.out.cm.1.lt
      clear hcn hlook hs1 hq1 hqe hAtq hx hxm
      generalize hz : M.size d x = z at *
      clear hz
      go_wp2_with fail
      refine (HSG.out _ Hnx.out).mono ?_
      rintro e w1 ⟨rfl, hb1⟩
      have hB1 : Below w.heap.size w w1 := Hnx.out.trans (hb1.mono Hnx.out.size)
      have hSz1 := HSz.out.below hb1 HSz.out.lt
      have hQu1 := HQu.out.below hb1 HQu.out.lt
      have hkl : k < (intsI (part0 (sizesI (M.sizes d)) k)).toArray.size := by simp [intsI, part0_length _ k (show k ≤ (sizesI (M.sizes d)).length by rw [Hszl.out]; omega), Hszl.out]; omega
      have hkq : k < (intsI (part0 M.quanta k)).toArray.size := by simp [intsI, part0_length _ k (show k ≤ M.quanta.length by rw [Hqul.out]; omega), Hqul.out]; omega
      obtain ⟨u1, s1⟩ : ∃ u, w1.cell? ⟨w.heap.size, k, none⟩ = some u := ⟨_, (hSz1.cell k).trans (Array.getElem?_eq_getElem hkl)⟩
      obtain ⟨u2, q1⟩ : ∃ u, w1.cell? ⟨w.heap.size + 1, k, none⟩ = some u := ⟨_, (hQu1.cell k).trans (Array.getElem?_eq_getElem hkq)⟩
      have f1 := hSz1.frozen k
      have f2 := hQu1.frozen k
      have d5 : w1.cell? ⟨g, 5, none⟩ = some (.map (some bm)) := (hB1.cell (p := ⟨g, 5, none⟩) hgl).trans (HAt.out.blk.1.cell 5)
      have hlk := Hlook.out (w1.setCell ⟨w.heap.size, k, none⟩ (.int .i64 z)) cn (om_below HAt.out.cm.1 (hB1.setCell (p := ⟨w.heap.size, k, none⟩) (Nat.le_refl _) (.int .i64 z)) hcml)
      have hl1 := hSz1.lt
      have hl2 := hQu1.lt
      have HSz1 := hide hSz1
      have HQu1 := hide hQu1
      have HB1 := hide hB1
      clear hb1 hB1 hSz1 hQu1 hkl hkq
      go_wp2_with fail
      go_roundw
      case rel =>
        refine ⟨k + 1, by omega, by go_num, ?_, ?_, ?_⟩
        · rw [← HSet1.out]
          exact HSz1.out.setInt.other _ _ (by simp)
        · rw [← HSet2.out]
          exact (HQu1.out.other _ _ (by simp)).setInt
        · exact (HB1.out.setCell (Nat.le_refl _) _).setCell (by show w.heap.size ≤ w.heap.size + 1; omega) _
      case measure => simp [intOf]; omega
    · have hkn : k = n := by omega
      subst hkn
      have hSzN : NumsAt wr L who w.heap.size (sizesI (M.sizes d)) := by
        have e := part0_all (sizesI (M.sizes d))
        rw [Hszl.out] at e
        refine ⟨by have := HSz.out; rw [e] at this; exact this, ?_⟩
        rw [HLn.out _ (Nat.le_refl _)]
        rintro ⟨q, hq⟩
        cases hq
      have hQuN : NumsAt wr L who (w.heap.size + 1) M.quanta := by
        have e := part0_all M.quanta
        rw [Hqul.out] at e
        refine ⟨by have := HQu.out; rw [e] at this; exact this, ?_⟩
        rw [HLn.out _ (by omega)]
        rintro ⟨q, hq⟩
        cases hq
      have hAw := HAt.out.keep (Step.of_below (p := fun _ => False) Hnx.out) (fun _ h => h)
      obtain ⟨go, ok, hov, hF⟩ := hAw.focus Ho.out
      subst hov
      have hdl : d < M.os.length := (List.getElem?_eq_some_iff.1 Ho.out).1
      have hdI : (d : Int) < (M.os.length : Int) := by omega
      have d18 : wr.cell? ⟨g, 18, none⟩ = some (.slice (some ⟨go, 0, none⟩) M.os.length ok) := hAw.blk.1.cell 18
      have hsl : (M.sizes d).length = k := by simp [Ag.sizes, Hn.out]
      have HAw := hide hAw
      cases hall : (M.sizes d).all (· == 0)
      · have HPk := hide (pick_some L who M.c.th go ok d w.heap.size (w.heap.size + 1) k M.os o (M.sizes d) M.quanta wr hF Hrot.out hnl (H.out.sizes_le d) hSzN hsl hQuN Hqul.out (by rw [← Hn.out]; exact H.out.quanta_bd) hall)
        obtain ⟨x, p, ps, hx, hp, hnm⟩ := picked_head H.out (by rw [Hn.out]; exact Hrot.out) hall
        have Hall := hide hall
        generalize hop : o.picked (M.sizes d) M.quanta = o' at *
        have Hop := hide hop
        have hxm := List.mem_of_getElem? hx
        have htl : o'.turn < k := by rw [← Hn.out]; exact (List.getElem?_eq_some_iff.1 hx).1
        have htI : (o'.turn : Int) < (k : Int) := by omega
        have htn : ((o'.turn : Int) == -1) = false := beq_eq_false_iff_ne.2 (by omega)
        obtain ⟨gn, hna, hgn, _, hcn, _⟩ := (show RowAt w L (some (who, .nm)) 9 1 (.slice na k nk) k (M.ns.map encStr) by have := HAt.out.nm; rw [Hn.out] at this; exact this).head (by omega)
        subst hna
        have HCn := hide (hcn o'.turn _ (strs_get hx))
        have Hnm := hide hnm
        have Hp := hide hp
        have hlo : LaneOk d x := laneOk_small (by omega) (by omega) (by have := H.out.sl x hxm; unfold maxLen; omega)
        clear hF hSzN hQuN hAw hx hxm hcn hnm hp hop hall
        go_wp2_with fail
        refine HPk.out.mono ?_
        rintro e w2 ⟨rfl, hF2, hS2⟩
        have hS2p : Step (ofP who) L wr L w2 := hS2.mono (fun l h => by rcases h with rfl | rfl <;> exact ⟨_, rfl⟩)
        have hA2 := HAw.out.outs hS2 (fun q h => by rcases h with h | h <;> simp at h; exact Or.inl h; exact Or.inr ⟨_, h⟩) hF2.2
        have d15 : w2.cell? ⟨g, 15, none⟩ = some (.slice (some ⟨gn, 0, none⟩) k nk) := by have := hA2.blk.1.cell 15; rw [show _ = _ from this]; simp [agCells]
        have hnmw : w.cell? ⟨gn, o'.turn, none⟩ = some (encStr x) := HCn.out
        have dn : w2.cell? ⟨gn, o'.turn, none⟩ = some (encStr x) := by
          have hl : L gn = some (who, .nm) := (show RowAt w L (some (who, .nm)) 9 1 (.slice (some ⟨gn, 0, none⟩) k nk) k (M.ns.map encStr) by have := HAt.out.nm; rw [Hn.out] at this; exact this).2 gn (by simp [Value.ownBlock])
          have hwl : gn < wr.heap.size := Nat.lt_of_lt_of_le hgn Hnx.out.size
          have e1 : w2.heap[gn]? = wr.heap[gn]? := hS2.block gn hwl (by rw [hl]; simp [rotP])
          have e2 : wr.heap[gn]? = w.heap[gn]? := Hnx.out.block gn hgn
          rw [← hnmw]
          simp only [World.cell?, e1, e2]
        have HHd := hide (fun W (hW : Below w2.heap.size w2 W) => head_any L who g { M with os := M.os.set d o' } d x W (AgentAt.keep ⟨bq, bm, cn, tv, dv, _, rv, _, hA2⟩ (Step.of_below (p := fun _ => False) hW) (fun _ h => h)) hlo)
        have hpe : pend (Ag.bs { M with os := M.os.set d o' }) d x = p :: ps := Hp.out
        rw [hpe] at HHd
        have HA2 : Hid (AgentAt w2 L who g { M with os := M.os.set d o' }) := ⟨bq, bm, cn, tv, dv, _, rv, _, hA2⟩
        have HS2 : Hid (Step (ofP who) L w L w2) := (Step.of_below Hnx.out).trans hS2p
        have E18 : Hid (w2.cell? ⟨g, 18, none⟩ = w.cell? ⟨g, 18, none⟩) := (hA2.blk.1.cell 18).trans (HAt.out.blk.1.cell 18).symm
        have hgl2 := hA2.blk.1.lt
        clear hF2 hS2 hS2p hA2 hnmw hpe
        go_wp2_with fail
        go_region_with ((go_at_call 112; refine (HHd.out _ (by first | exact Below.refl _ _ | exact (Below.refl _ _).drew)).mono ?_; rintro e w3 ⟨rfl, hb3⟩))
        all_goals
          go_wp2_with fail
          go_ret
          have hb3' : Below w2.heap.size w2 w3 := ((Below.refl w2.heap.size w2).drew).trans hb3
          rw [Hop.out]
          refine ⟨fun h => (by rw [Hall.out] at h; cases h), fun _ => ⟨?_, HA2.out.keep (Step.of_below (p := fun _ => False) hb3') (fun _ h => h), HS2.out.trans (Step.of_below hb3'), (hb3'.cell (p := ⟨g, 18, none⟩) hgl2).trans E18.out⟩⟩
          rw [Hnm.out]
          rfl
      · have HPk := hide (pick_none L who go d w.heap.size (w.heap.size + 1) k (M.sizes d) wr hSzN hsl hnl hall)
        have Hall := hide hall
        clear hF hSzN hQuN hAw hall
        go_wp2_with fail
        refine HPk.out.mono ?_
        rintro e w2 ⟨rfl, hw2⟩
        subst hw2
        go_wp2_with fail
        go_ret
        exact ⟨fun _ => ⟨rfl, ⟨bq, bm, cn, tv, dv, _, rv, _, HAw.out⟩, Step.of_below Hnx.out, Hnx.out.cell (p := ⟨g, 18, none⟩) hgl⟩, fun h => (by rw [Hall.out] at h; cases h)⟩
end Go.Proofs.YtojpjaifhjigfabGreatDoor
