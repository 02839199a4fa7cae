/- Steps of the proof (several texts in one): RefTick, RefTick2, RefReply. -/
import Derived.Test.YtojpjaifhjigfaaGreatDoorMAllupto19
import Derived.Test.YtojpjaifhjigfaaGreatDoorMAllupto20
import Derived.Test.YtojpjaifhjigfaaGreatDoorMAllupto15

/- Tick: the document's side. -/
namespace Go.Proofs.YtojpjaifhjigfaaGreatDoor
open Go.RowKit Go.Maps

/-- What the document's Tick leaves. -/
def TickedR (w : World) (L : Labs) (l : Lab) (who g : Nat) (x : Rf × List Sd) (e : Ending) (w' : World) : Prop := ∃ v L', e = .returned (.tuple #[v, .int .i64 0]) ∧ RowAt w' L' l 68 4 v x.2.length (x.2.flatMap Sd.cells) ∧ RefAt w' L' who g x.1 ∧ Step (ofP who) L w L' w'

theorem refCells_set16 (c : Cfg) (m : Option Nat) (nv qv bv dv lv : Value) (t t' : Int) : (refCells c m nv qv bv dv lv t).setIfInBounds 16 (.int .i64 t') = refCells c m nv qv bv dv lv t' := by
  apply Array.ext'
  rw [Array.toList_setIfInBounds]
  rfl
theorem refLater_step {w : World} {L : Labs} {who g : Nat} {R : Rf} (h : RefAt w L who g R) (ms : Int) : RefAt (w.setCell ⟨g, 16, none⟩ (.int .i64 (R.time + ms))) L who g (R.later ms) ∧ Step (ofP who) L w L (w.setCell ⟨g, 16, none⟩ (.int .i64 (R.time + ms))) := by
  obtain ⟨nv, qv, bv, dv, la, lk, h⟩ := h
  have s : Step (fun l => l = some (who, .ag)) L w L (w.setCell ⟨g, 16, none⟩ (.int .i64 (R.time + ms))) := Step.setCell _ _ _ _ h.blk.2
  refine ⟨⟨nv, qv, bv, dv, la, lk, ⟨⟨?_, h.blk.2⟩, h.nm.keep s (by simp), h.tk.keep s (by simp), h.dd.keep s (by simp), h.qu.keep s (by simp), h.ll.keep s (by simp) (by simp), h.ln⟩⟩, s.mono (fun l h => ⟨_, h⟩)⟩
  have := h.blk.1.set 16 (.int .i64 (R.time + ms))
  rw [refCells_set16] at this
  exact this

theorem refSentOut_len (R : Rf) : ∀ k, (R.sentOut k).2.length ≤ k
  | 0 => Nat.le_refl _
  | k + 1 => by
    have ih := refSentOut_len R k
    have h1 : ((R.sentOut k).1.sentTo k).2.length ≤ 1 := by
      unfold Rf.sentTo
      cases (R.sentOut k).1.ls[k]? with
      | none => simp
      | some o =>
        simp only
        split
        · simp
        · split <;> simp
    simp only [Rf.sentOut, List.length_append]
    omega
theorem namedAt_len (R : Rf) (d : Nat) (o : Out) : (R.namedAt d o).2.ls.length = R.ls.length := by
  unfold Rf.namedAt
  split <;> simp
theorem refSentOut_ls (R : Rf) : ∀ k, (R.sentOut k).1.ls.length = R.ls.length
  | 0 => rfl
  | k + 1 => by
    have ih := refSentOut_ls R k
    have h1 : ((R.sentOut k).1.sentTo k).1.ls.length = (R.sentOut k).1.ls.length := by
      unfold Rf.sentTo
      cases (R.sentOut k).1.ls[k]? with
      | none => rfl
      | some o =>
        simp only
        split
        · rfl
        · split
          · exact namedAt_len _ _ _
          · simp
    show ((R.sentOut k).1.sentTo k).1.ls.length = _
    rw [h1, ih]

/-- What the second loop wants of a destination. -/
structure LineOk (R : Rf) (k : Nat) (l : Out) : Prop where
  nm : NamedOk R k l
  s0 : 0 ≤ l.sends
  s1 : l.sends ≤ 1000000000000000000
  n0 : 0 ≤ R.time
  n1 : R.time ≤ 1000000000000000000

set_option maxRecDepth 100000 in
set_option maxHeartbeats 1000000 in
theorem refTick_bad (g : Nat) (ms draw : Int) (w : World) (hb : ms < 0 ∨ 60000 < ms ∨ draw < 0) :
    Calls Tryz.prog 88 #[.pointer (some ⟨g, 0, none⟩), .int .i64 ms, .int .i64 draw] w fun e w' => e = .returned (.tuple #[.slice none 0 0, .int .i64 10]) ∧ w' = w := by
  by_cases h1 : ms < 0
  · have h1d : decide (ms < 0) = true := by simpa using h1
    go_enter Tryz.func88, Tryz.ntmps88
    go_wp2_with fail
    go_ret2
    exact ⟨rfl, rfl⟩
  have h1d : decide (ms < 0) = false := by simpa using h1
  by_cases h2 : 60000 < ms
  · have h2d : decide (60000 < ms) = true := by simpa using h2
    go_enter Tryz.func88, Tryz.ntmps88
    go_wp2_with fail
    go_ret2
    exact ⟨rfl, rfl⟩
  have h2d : decide (60000 < ms) = false := by simpa using h2
  have h3 : draw < 0 := by omega
  have h3d : decide (draw < 0) = true := by simpa using h3
  go_enter Tryz.func88, Tryz.ntmps88
  go_wp2_with fail
  go_ret2
  exact ⟨rfl, rfl⟩

set_option maxRecDepth 100000 in
set_option maxHeartbeats 8000000 in
theorem refTick_core (L : Labs) (l : Lab) (who g : Nat) (R : Rf) (ms draw : Int) (w : World) (hl : ¬ ofP who l) (hfr : ∀ k, k < w.heap.size → L k ≠ l) (h : RefAt w L who g R) (h0 : 0 ≤ ms) (h1 : ms ≤ 60000) (hd : 0 ≤ draw) (hn4 : R.ls.length ≤ 4) (hn0 : 0 ≤ R.time) (hn1 : R.time ≤ 900000000000000000)
    (hO : ∀ k o, ((R.later ms).overs draw k).ls[k]? = some o → ((R.later ms).overs draw k).time = R.time + ms ∧ ((R.later ms).overs draw k).c = R.c ∧ 0 ≤ o.began ∧ o.began ≤ 1000000000000000000 ∧ (0 ≤ o.way → ∃ p r, o.way = (p : Nat) ∧ OverOk ((R.later ms).overs draw k) k p o r draw ∧ ((R.later ms).overs draw k).over k false draw = ((R.later ms).overs draw k).overed k p o r false draw))
    (hti : 0 ≤ R.c.ti ∧ R.c.ti ≤ 60000)
    (hX : ∀ k o, (((R.later ms).overs draw R.ls.length).sentOut k).1.ls[k]? = some o → LineOk (((R.later ms).overs draw R.ls.length).sentOut k).1 k o) :
    Calls Tryz.prog 88 #[.pointer (some ⟨g, 0, none⟩), .int .i64 ms, .int .i64 draw] w fun e w' => TickedR w L l who g (R.ticked ms draw) e w' := by
  have h1d : decide (ms < 0) = false := by simp; omega
  have h2d : decide (60000 < ms) = false := by simp; omega
  have h3d : decide (draw < 0) = false := by simp; omega
  have c16 : w.cell? ⟨g, 16, none⟩ = some (.int .i64 R.time) := by obtain ⟨nv, qv, bv, dv, la, lk, q⟩ := h; exact q.blk.1.cell 16
  have f16 : w.frozen? ⟨g, 16, none⟩ = false := by obtain ⟨nv, qv, bv, dv, la, lk, q⟩ := h; exact q.blk.1.frozen 16
  obtain ⟨hA1, hS1⟩ := refLater_step h ms
  obtain ⟨R1, hR1⟩ : ∃ R1, R.later ms = R1 := ⟨_, rfl⟩
  have hlen1 : ∀ k, (R1.overs draw k).ls.length = R.ls.length := fun k => by rw [overs_len, ← hR1]; rfl
  have HTk : Hid (R.ticked ms draw = (R1.overs draw R.ls.length).sentOut R.ls.length) := by show _ = _; unfold Rf.ticked; rw [hR1]
  rw [hR1] at hA1 hO hX
  have HA1 := hide hA1
  have HS1 := hide hS1
  have HO := hide hO
  have HX := hide hX
  have Hlen := hide hlen1
  have Hfr := hide hfr
  have Hl := hide hl
  obtain ⟨i0, hi, hz0, hz1, hz2⟩ := info_parts infoSend3
  generalize hn : R.ls.length = n at *
  have Hn := hide hn
  clear h hA1 hS1 hO hX hlen1 hfr hn hl hR1
  go_enter Tryz.func88, Tryz.ntmps88
  go_wp2_with fail
  generalize hV : World.setCell w _ _ = V at *
  clear hV c16 f16
  go_loopw [8] (fun i wr => ∃ (k : Nat) (L1 : Labs), k ≤ n ∧ i = .int .i64 k ∧ RefAt wr L1 who g (R1.overs draw k) ∧ Step (ofP who) L w L1 wr) (fun i _ => n - (intOf i).toNat)
  case atStart => exact ⟨0, L, Nat.zero_le _, rfl, HA1.out, HS1.out⟩
  case round =>
    obtain ⟨k, L1, hk, rfl, hA, hS⟩ := hrel
    have HA := hide hA
    have HS := hide hS
    have HStep : Hid (R1.overs draw (k + 1) = match (R1.overs draw k).ls[k]? with | none => R1.overs draw k | some o => if 0 ≤ o.way ∧ o.began + (R1.overs draw k).c.ti ≤ (R1.overs draw k).time then (R1.overs draw k).over k false draw else R1.overs draw k) := rfl
    obtain ⟨R2, hR2⟩ : ∃ R2, R1.overs draw k = R2 := ⟨_, rfl⟩
    have hl2 : R2.ls.length = n := by rw [← hR2]; exact Hlen.out k
    have hOk := HO.out k
    rw [hR2] at hOk HStep HA hA
    obtain ⟨nv, qv, bv, dv, la, lk, hAt⟩ := hA
    have hdn : R2.c.d.toNat = n := by rw [← hAt.ln]; exact hl2
    have d15 : wr.cell? ⟨g, 15, none⟩ = some (.slice la n lk) := by have := hAt.blk.1.cell 15; rw [show _ = _ from this, ← hdn]; rfl
    by_cases hlt : k < n
    · have hltI : (k : Int) < (n : Int) := by omega
      obtain ⟨o, ho⟩ : ∃ o, R2.ls[k]? = some o := ⟨_, List.getElem?_eq_getElem (by rw [hl2]; exact hlt)⟩
      obtain ⟨e1, e2, e3, e4, e5⟩ := hOk o ho
      obtain ⟨gl, rfl, hF⟩ := hAt.focus ho
      obtain ⟨ca, ck, hC⟩ := hF.cells
      have l7 := hC.c7
      have l8 := hC.c8
      have d16 : wr.cell? ⟨g, 16, none⟩ = some (.int .i64 (R.time + ms)) := by have := hAt.blk.1.cell 16; rw [show _ = _ from this]; simp [refCells, e1]
      have d6 : wr.cell? ⟨g, 6, none⟩ = some (.int .i64 R.c.ti) := by have := hAt.blk.1.cell 6; rw [show _ = _ from this]; simp [refCells, e2]
      rw [ho] at HStep
      simp only [e1, e2] at HStep
      have hgw := hAt.blk.1.lt
      have hglw := hC.lt
      have H5 := hide e5
      clear hAt hF hC ho hOk e1 e2 e5 hS hl2 hdn
      by_cases hw : 0 ≤ o.way
      · have hwd : decide (0 ≤ o.way) = true := by simpa using hw
        by_cases hto : o.began + R.c.ti ≤ R.time + ms
        · have htd : decide (o.began + R.c.ti ≤ R.time + ms) = true := by simpa using hto
          obtain ⟨p, r, hp, hov, hoe⟩ := H5.out hw
          have HOv := hide (fun q => refOver_any L1 who g k p R2 o r false draw (wr.drewN q) (HA.out.keep (Step.drewN (p := fun _ => False) L1 wr q) (fun _ h => h)) hov)
          have HNx : Hid (R1.overs draw (k + 1) = R2.overed k p o r false draw) := by show _ = _; rw [HStep.out, if_pos ⟨hw, hto⟩, hoe]
          clear hp hov hoe
          go_wp2_with fail
          go_quiet (fail)
          go_wp2_with fail
          refine (HOv.out _).mono ?_
          rintro e w2 ⟨rfl, L2, hA2, hS2⟩
          have HA2 := hide hA2
          have HS2 : Hid (Step (ofP who) L w L2 w2) := HS.out.trans ((Step.drewN L1 wr _).trans hS2)
          clear hA2 hS2
          go_wp2_with fail
          go_roundw
          case rel => exact ⟨k + 1, L2, by omega, by go_num, by rw [HNx.out]; exact HA2.out, HS2.out⟩
          case measure => simp [intOf]; omega
        · have htd : decide (o.began + R.c.ti ≤ R.time + ms) = false := by simpa using hto
          have HNx : Hid (R1.overs draw (k + 1) = R2) := by show _ = _; rw [HStep.out, if_neg (fun e => hto e.2)]
          go_wp2_with fail
          go_quiet (fail)
          go_wp2_with fail
          go_roundw
          case rel => exact ⟨k + 1, L1, by omega, by go_num, by rw [HNx.out]; exact HA.out.keep (Step.drewN (p := fun _ => False) L1 wr _) (fun _ h => h), HS.out.trans (Step.drewN L1 wr _)⟩
          case measure => simp [intOf]; omega
      · have hwd : decide (0 ≤ o.way) = false := by simpa using hw
        have HNx : Hid (R1.overs draw (k + 1) = R2) := by show _ = _; rw [HStep.out, if_neg (fun e => hw e.1)]
        go_wp2_with fail
        go_quiet (fail)
        go_wp2_with fail
        go_roundw
        case rel => exact ⟨k + 1, L1, by omega, by go_num, by rw [HNx.out]; exact HA.out.keep (Step.drewN (p := fun _ => False) L1 wr _) (fun _ h => h), HS.out.trans (Step.drewN L1 wr _)⟩
        case measure => simp [intOf]; omega
    · have hkn : n = k := by omega
      subst hkn
      rw [← hR2] at HA
      clear hAt hOk HStep hl2 hR2 hdn hS
      go_wp2_with fail
      go_loopg [9, 10, 11] n (fun gk q i s wr => ∃ (k : Nat) (L2 : Labs) (ea : Option Addr) (m ek : Nat), gk + k = n ∧ i = .int .i64 k ∧ q = .slice ea m ek ∧ m = ((R1.overs draw n).sentOut k).2.length ∧ RowAt wr L2 l 68 4 (.slice ea m ek) m (((R1.overs draw n).sentOut k).2.flatMap Sd.cells) ∧ RefAt wr L2 who g ((R1.overs draw n).sentOut k).1 ∧ Step (fun x => ofP who x ∨ x = l) L w L2 wr)
      case atStart => exact ⟨0, L1, none, 0, 0, by omega, rfl, rfl, rfl, RowAt.nil _ _ _ _ _, HA.out, HS.out.mono (fun x h => Or.inl h)⟩
      case round =>
        obtain ⟨k, L2, ea, m, ek, hgk, rfl, rfl, hm, hrow, hA2, hS2⟩ := hrel
        have Hm := hide hm
        have Hrow := hide hrow
        have HA2 := hide hA2
        have HS2 := hide hS2
        have hm4 : m ≤ 4 := by rw [hm]; have := refSentOut_len (R1.overs draw n) k; omega
        have HStep : Hid ((R1.overs draw n).sentOut (k + 1) = ((((R1.overs draw n).sentOut k).1.sentTo k).1, ((R1.overs draw n).sentOut k).2 ++ (((R1.overs draw n).sentOut k).1.sentTo k).2)) := rfl
        obtain ⟨R3, hR3⟩ : ∃ R3, ((R1.overs draw n).sentOut k).1 = R3 := ⟨_, rfl⟩
        have hl3 : R3.ls.length = n := by rw [← hR3, refSentOut_ls]; exact Hlen.out n
        have hXk := HX.out k
        rw [hR3] at hXk HStep HA2 hA2
        obtain ⟨xs, hxs⟩ : ∃ xs, ((R1.overs draw n).sentOut k).2 = xs := ⟨_, rfl⟩
        rw [hxs] at HStep Hm Hrow
        obtain ⟨nv, qv, bv, dv, la, lk, hAt⟩ := hA2
        have hdn : R3.c.d.toNat = n := by rw [← hAt.ln]; exact hl3
        have d15 : wr.cell? ⟨g, 15, none⟩ = some (.slice la n lk) := by have := hAt.blk.1.cell 15; rw [show _ = _ from this, ← hdn]; rfl
        have Hxs := hide hxs
        clear hm hrow hS2 hxs
        by_cases hlt : k < n
        · have hltI : (k : Int) < (n : Int) := by omega
          obtain ⟨o, ho⟩ : ∃ o, R3.ls[k]? = some o := ⟨_, List.getElem?_eq_getElem (by rw [hl3]; exact hlt)⟩
          have hLO := hXk o ho
          obtain ⟨gl, rfl, hF⟩ := hAt.focus ho
          obtain ⟨ca, ck, hC⟩ := hF.cells
          have l7 := hC.c7
          have l2 := hC.c2
          have l3 := hC.c3
          have d16 : wr.cell? ⟨g, 16, none⟩ = some (.int .i64 R3.time) := hAt.blk.1.cell 16
          have HTo : Hid (R3.sentTo k = if 0 ≤ o.way ∨ (o.trip = true ∧ R3.time < o.unt) then (R3, []) else if (R3.namedAt k o).1 < 0 then ((R3.namedAt k o).2, []) else
              ({ R3 with ls := R3.ls.set k { o.picked (R3.sizes k) R3.qs with sends := o.sends + 1, way := (R3.namedAt k o).1, began := R3.time } }, [⟨k, o.sends + 1, (R3.bs[(R3.namedAt k o).1.toNat]?.map (·.id)).getD [], (R3.bs[(R3.namedAt k o).1.toNat]?.map (·.body)).getD []⟩])) := by
            show _ = _
            unfold Rf.sentTo
            rw [ho]
          have HLO := hide hLO
          have Ho := hide ho
          have Hl3 := hide hl3
          have hgw := hAt.blk.1.lt
          have hglw := hC.lt
          have hgk0 : 0 < gk := by omega
          clear hAt hF hC ho hXk hLO hR3 hl3
          go_upto_region 13 with fail
          go_cut [116] (fun s wx => s = .bool (decide (0 ≤ o.way) || (o.trip && decide (R3.time < o.unt))) ∧ ∃ q, wx = wr.drewN q)
          case first =>
            by_cases hw : 0 ≤ o.way
            · have hwd : decide (0 ≤ o.way) = true := by simpa using hw
              go_quiet (fail)
              go_wp2_with fail
              go_meet
              exact ⟨by rw [hwd]; rfl, _, rfl⟩
            · have hwd : decide (0 ≤ o.way) = false := by simpa using hw
              cases htr : o.trip
              · rw [htr] at l2
                go_quiet (fail)
                go_wp2_with fail
                go_meet
                exact ⟨by rw [hwd, htr]; rfl, _, rfl⟩
              · rw [htr] at l2
                by_cases hun : R3.time < o.unt
                · have hud : decide (R3.time < o.unt) = true := by simpa using hun
                  go_quiet (fail)
                  go_wp2_with fail
                  go_meet
                  exact ⟨by rw [hwd, htr, hud]; rfl, _, rfl⟩
                · have hud : decide (R3.time < o.unt) = false := by simpa using hun
                  go_quiet (fail)
                  go_wp2_with fail
                  go_meet
                  exact ⟨by rw [hwd, htr, hud]; rfl, _, rfl⟩
          case rest =>
          obtain ⟨rfl, q, rfl⟩ := hcut
          clear d15 d16 l7 l2 l3 hgw hglw
          cases hbb : (decide (0 ≤ o.way) || (o.trip && decide (R3.time < o.unt)))
          · have hno : ¬ (0 ≤ o.way ∨ (o.trip = true ∧ R3.time < o.unt)) := by
              rintro (e | ⟨e1, e2⟩)
              · simp [e] at hbb
              · simp [e1, e2] at hbb
            rw [if_neg hno] at HTo
            have HNm := hide (refNamed_any L2 who g k R3 o (wr.drewN q) (HA2.out.keep (Step.drewN (p := fun _ => False) L2 wr q) (fun _ h => h)) HLO.out.nm)
            by_cases hneg : (R3.namedAt k o).1 < 0
            · rw [if_pos hneg] at HTo
              generalize hnn : (R3.namedAt k o).1 = nn at *
              clear hno hbb
              go_wp2_with fail
              refine HNm.out.mono ?_
              rintro e w2 ⟨rfl, hA4, hS4⟩
              have HA4 := hide hA4
              have HS4 : Hid (Step (ofP who) L2 wr L2 w2) := (Step.drewN L2 wr q).trans hS4
              clear hA4 hS4
              go_wp2_with fail
              go_roundg (gk - 1)
              case measure => omega
              case rel =>
                refine ⟨k + 1, L2, ea, m, ek, by omega, by go_num, rfl, ?_, ?_, ?_, HS2.out.trans (HS4.out.mono (fun x h => Or.inl h))⟩
                · rw [HStep.out, HTo.out]; simp only [List.append_nil]; exact Hm.out
                · rw [HStep.out, HTo.out]; simp only [List.append_nil]; exact Hrow.out.keep HS4.out Hl.out
                · rw [HStep.out, HTo.out]; exact HA4.out
            · rw [if_neg hneg] at HTo
              have hall : (R3.sizes k).all (· == 0) = false := by
                cases e : (R3.sizes k).all (· == 0) with
                | false => rfl
                | true =>
                  exfalso
                  apply hneg
                  unfold Rf.namedAt
                  rw [e]
                  show (-1 : Int) < 0
                  omega
              have hna : R3.namedAt k o = (R3.hd k (R3.ns.getD (o.picked (R3.sizes k) R3.qs).turn []), { R3 with ls := R3.ls.set k (o.picked (R3.sizes k) R3.qs) }) := by unfold Rf.namedAt; rw [hall]; rfl
              obtain ⟨p, r, hp, hr⟩ := Rf.hd_get (show ¬ R3.hd k (R3.ns.getD (o.picked (R3.sizes k) R3.qs).turn []) < 0 by rw [hna] at hneg; exact hneg)
              have hrb := Rf.get hr
              rw [hna] at HNm HTo
              simp only [hp] at HNm HTo
              obtain ⟨o', ho'⟩ : ∃ o', o.picked (R3.sizes k) R3.qs = o' := ⟨_, rfl⟩
              have hs' : o'.sends = o.sends := by rw [← ho']; rfl
              rw [ho'] at HNm HTo
              simp only [Int.toNat_natCast, hrb, Option.map_some, Option.getD_some] at HTo
              have hpl := (List.getElem?_eq_some_iff.1 hr).1
              have hpI : (p : Int) < (R3.rs.length : Int) := by omega
              have hp0 : (0 : Int) ≤ (p : Int) := by omega
              have hp0d : decide ((0 : Int) ≤ (p : Int)) = true := by simp
              have hs0 := HLO.out.s0
              have hs1 := HLO.out.s1
              have hkl3 : k < R3.ls.length := by rw [Hl3.out]; exact hlt
              have Hr := hide hr
              have Hs' := hide hs'
              clear hno hbb hneg hall hna hp hr hrb ho' hs' hpl
              go_wp2_with fail
              refine HNm.out.mono ?_
              rintro e w2 ⟨rfl, ⟨nv4, qv4, bv4, dv4, la4, lk4, hA4⟩, hS4⟩
              have HS4 : Hid (Step (ofP who) L2 wr L2 w2) := (Step.drewN L2 wr q).trans hS4
              obtain ⟨gl4, rfl, hF4⟩ := hA4.focus (d := k) (o := o') (by show (R3.ls.set k o')[k]? = _; rw [List.getElem?_set_self hkl3])
              obtain ⟨ca4, ck4, hC4⟩ := hF4.cells
              have m15 : w2.cell? ⟨g, 15, none⟩ = some (.slice (some ⟨gl4, 0, none⟩) n lk4) := by have := hA4.blk.1.cell 15; rw [show _ = _ from this]; simp [refCells, hdn]
              have m7 := hC4.c7
              have mf := hC4.fz
              have hgl4 := hC4.lt
              have hng : g ≠ gl4 := fun e => by have h1 := hC4.lab; rw [← e, hA4.blk.2] at h1; simp at h1
              have HP7 := hide (hA4.lput (o' := { o' with way := p }) (v := .int .i64 (p : Int)) (d := k) (o := o') (j := 7) (by show (R3.ls.set k o')[k]? = _; rw [List.getElem?_set_self hkl3]) (by omega) rfl (fun _ => rfl))
              clear hA4 hS4 hF4 hC4
              go_upto_region 17 with fail
              generalize hW1 : World.setCell w2 _ _ = W1
              have hA5 : RfAt W1 L2 who g { R3 with ls := R3.ls.set k { o' with way := p } } nv4 qv4 bv4 dv4 (some ⟨gl4, 0, none⟩) lk4 := by
                have := HP7.out.1
                rw [hW1] at this
                simpa only [List.set_set] using this
              have hS5 := HP7.out.2
              rw [hW1] at hS5
              obtain ⟨gl5, e5, hF5⟩ := hA5.focus (d := k) (o := { o' with way := p }) (by show (R3.ls.set k { o' with way := p })[k]? = _; rw [List.getElem?_set_self hkl3])
              obtain rfl : gl4 = gl5 := by simpa using e5
              obtain ⟨ca5, ck5, hC5⟩ := hF5.cells
              have p15 : W1.cell? ⟨g, 15, none⟩ = some (.slice (some ⟨gl4, 0, none⟩) n lk4) := by have := hA5.blk.1.cell 15; rw [show _ = _ from this]; simp [refCells, hdn]
              have p16 : W1.cell? ⟨g, 16, none⟩ = some (.int .i64 R3.time) := hA5.blk.1.cell 16
              have p8 := hC5.c8
              have pf := hC5.fz
              have hglW := hC5.lt
              have hgW := hA5.blk.1.lt
              have HP8 := hide (hA5.lput (o' := { o' with way := p, began := R3.time }) (v := .int .i64 R3.time) (d := k) (o := { o' with way := p }) (j := 8) (by show (R3.ls.set k { o' with way := p })[k]? = _; rw [List.getElem?_set_self hkl3]) (by omega) rfl (fun _ => rfl))
              have HS5 := hide hS5
              clear hA5 hS5 hF5 hC5 e5 hW1 m15 m7 mf
              go_cut [] (fun wx => RfAt wx L2 who g { R3 with ls := R3.ls.set k { o' with way := p, began := R3.time } } nv4 qv4 bv4 dv4 (some ⟨gl4, 0, none⟩) lk4 ∧ Step (ofP who) L2 W1 L2 wx)
              case first =>
                go_region
                all_goals
                  go_wp2_with fail
                  go_meet
                  refine ⟨?_, HP8.out.2.trans (Step.drew L2 _)⟩
                  have := HP8.out.1.keep (Step.drew (p := fun _ => False) L2 _) (fun _ h => h)
                  simpa only [List.set_set] using this
              case rest =>
              obtain ⟨hA6, hS6⟩ := hcut
              generalize hwc : wc = W2 at *
              obtain ⟨gl6, e6, hF6⟩ := hA6.focus (d := k) (o := { o' with way := p, began := R3.time }) (by show (R3.ls.set k { o' with way := p, began := R3.time })[k]? = _; rw [List.getElem?_set_self hkl3])
              obtain rfl : gl4 = gl6 := by simpa using e6
              obtain ⟨ca6, ck6, hC6⟩ := hF6.cells
              have r15 : W2.cell? ⟨g, 15, none⟩ = some (.slice (some ⟨gl4, 0, none⟩) n lk4) := by have := hA6.blk.1.cell 15; rw [show _ = _ from this]; simp [refCells, hdn]
              have r6 : W2.cell? ⟨gl4, k * 9 + 6, none⟩ = some (.int .i64 o.sends) := by have : _ = some (Value.int .i64 o'.sends) := hC6.c6; rw [Hs'.out] at this; exact this
              have rf' := hC6.fz
              have hgl6 := hC6.lt
              have HP6 := hide (hA6.lput (o' := { o' with way := p, began := R3.time, sends := o.sends + 1 }) (v := .int .i64 (o.sends + 1)) (d := k) (o := { o' with way := p, began := R3.time }) (j := 6) (by show (R3.ls.set k { o' with way := p, began := R3.time })[k]? = _; rw [List.getElem?_set_self hkl3]) (by omega) rfl (fun _ => rfl))
              have HS6 := hide hS6
              clear hA6 hS6 hF6 hC6 e6 hwc p15 p16 p8 pf HP7 HP8
              go_upto_region 19 with fail
              generalize hV3 : World.setCell W2 _ _ = V3
              have hA7 : RfAt V3 L2 who g { R3 with ls := R3.ls.set k { o' with sends := o.sends + 1, way := p, began := R3.time } } nv4 qv4 bv4 dv4 (some ⟨gl4, 0, none⟩) lk4 := by
                have := HP6.out.1
                rw [hV3] at this
                simpa only [List.set_set] using this
              have hS7 := HP6.out.2
              rw [hV3] at hS7
              obtain ⟨gl7, e7, hF7⟩ := hA7.focus (d := k) (o := { o' with sends := o.sends + 1, way := p, began := R3.time }) (by show (R3.ls.set k { o' with sends := o.sends + 1, way := p, began := R3.time })[k]? = _; rw [List.getElem?_set_self hkl3])
              obtain rfl : gl4 = gl7 := by simpa using e7
              obtain ⟨ca7, ck7, hC7⟩ := hF7.cells
              obtain ⟨ta, tc, rfl, _⟩ := hA7.tk.shape
              obtain ⟨gt, rfl⟩ : ∃ gt, ta = some ⟨gt, 0, none⟩ := by obtain ⟨gt, e, _⟩ := hA7.tk.head (by show 0 < R3.rs.length; omega); exact ⟨gt, e⟩
              obtain ⟨_, hgt, _, hct, _⟩ := hA7.bat Hr.out
              have v15 : V3.cell? ⟨g, 15, none⟩ = some (.slice (some ⟨gl4, 0, none⟩) n lk4) := by have := hA7.blk.1.cell 15; rw [show _ = _ from this]; simp [refCells, hdn]
              have v13 : V3.cell? ⟨g, 13, none⟩ = some (.slice (some ⟨gt, 0, none⟩) R3.rs.length tc) := hA7.blk.1.cell 13
              have v6 : V3.cell? ⟨gl4, k * 9 + 6, none⟩ = some (.int .i64 (o.sends + 1)) := hC7.c6
              have vi : V3.cell? ⟨gt, p * 8 + 2, none⟩ = some (encStr r.b.id) := hct 2 _ rfl
              have vb : V3.cell? ⟨gt, p * 8 + 3, none⟩ = some (encStr r.b.body) := hct 3 _ rfl
              have hgV := hA7.blk.1.lt
              have hglV := hC7.lt
              have HSr : Hid (Step (ofP who) L2 wr L2 V3) := ((HS4.out.trans HS5.out).trans HS6.out).trans hS7
              have HRV := hide (Hrow.out.keep HSr.out Hl.out)
              have HAV : Hid (RefAt V3 L2 who g { R3 with ls := R3.ls.set k { o' with sends := o.sends + 1, way := p, began := R3.time } }) := ⟨_, _, _, _, _, _, hA7⟩
              have HSV : Hid (Step (fun x => ofP who x ∨ x = l) L w L2 V3) := HS2.out.trans (HSr.out.mono (fun x h => Or.inl h))
              obtain ⟨sd, hsd⟩ : ∃ sd : Sd, sd = ⟨k, o.sends + 1, r.b.id, r.b.body⟩ := ⟨_, rfl⟩
              have Hsd := hide hsd
              have HEnd : Hid (∀ g5 cap5 w5, w5.ownsRow 0 68 4 (.slice (some ⟨g5, 0, none⟩) (m + 1) cap5) (m + 1) (xs.flatMap Sd.cells ++ sd.cells) → (V3.alloc (.cells sd.cells.toArray 68)).drew.grownBy w5 (Value.slice ea m ek).ownBlock → ((Value.slice ea m ek).ownBlock = some g5 ∨ g5 = V3.heap.size + 1) →
                  (∃ L5, RowAt w5 L5 l 68 4 (.slice (some ⟨g5, 0, none⟩) (m + 1) cap5) (m + 1) (((R1.overs draw n).sentOut (k + 1)).2.flatMap Sd.cells) ∧ m + 1 = ((R1.overs draw n).sentOut (k + 1)).2.length ∧ RefAt w5 L5 who g ((R1.overs draw n).sentOut (k + 1)).1 ∧ Step (fun x => ofP who x ∨ x = l) L w L5 w5) ∧ (w5.cell? ⟨g, 15, none⟩ = some (.slice (some ⟨gl4, 0, none⟩) n lk4) ∧ w5.cell? ⟨g, 13, none⟩ = some (.slice (some ⟨gt, 0, none⟩) R3.rs.length tc) ∧ w5.cell? ⟨gl4, k * 9 + 6, none⟩ = some (.int .i64 (o.sends + 1)) ∧ w5.cell? ⟨gt, p * 8 + 2, none⟩ = some (encStr r.b.id) ∧ w5.cell? ⟨gt, p * 8 + 3, none⟩ = some (encStr r.b.body))) := fun g5 cap5 w5 a1 a2 a3 => by
                have hat : (Value.slice ea m ek).ownBlock = some g5 ∨ (V3.alloc (.cells sd.cells.toArray 68)).drew.heap.size ≤ g5 := a3.imp id (fun e => by simp; omega)
                have hR2' := HRV.out.keep ((Step.alloc (p := fun _ => False) L2 V3 (.cells sd.cells.toArray 68)).trans (Step.drew L2 _)) (fun h => h)
                obtain ⟨hrow5, hlab5⟩ := RowAt.appended hR2' a1 hat
                have hsa : Step (fun x => x = l) L2 V3 (lay L2 g5 l) w5 := ((Step.alloc L2 V3 _).trans (Step.drew L2 _)).trans (Step.of_grown a2 (fun j hj => hR2'.2 j hj) hlab5)
                have hA8 := hA7.keep hsa (fun q h => Hl.out ⟨q, h.symm⟩)
                obtain ⟨gl8, e8, hF8⟩ := hA8.focus (d := k) (o := { o' with sends := o.sends + 1, way := p, began := R3.time }) (by show (R3.ls.set k { o' with sends := o.sends + 1, way := p, began := R3.time })[k]? = _; rw [List.getElem?_set_self hkl3])
                obtain rfl : gl4 = gl8 := by simpa using e8
                obtain ⟨ca8, ck8, hC8⟩ := hF8.cells
                obtain ⟨_, _, _, hct8, _⟩ := hA8.bat Hr.out
                refine ⟨⟨lay L2 g5 l, ?_, ?_, ?_, HSV.out.trans (hsa.mono (fun x h => Or.inr h))⟩, by have := hA8.blk.1.cell 15; rw [show _ = _ from this]; simp [refCells, hdn], hA8.blk.1.cell 13, hC8.c6, hct8 2 _ rfl, hct8 3 _ rfl⟩
                · rw [HStep.out, HTo.out, List.flatMap_append]
                  have : [sd].flatMap Sd.cells = sd.cells := by simp
                  rw [← hsd, this]
                  exact hrow5
                · rw [HStep.out, HTo.out, List.length_append, Hm.out]; rfl
                · rw [HStep.out, HTo.out]
                  exact HAV.out.keep hsa (fun q h => Hl.out ⟨q, h.symm⟩)
              clear hV3 hA7 hS7 hF7 hC7 e7 hct hsd r15 r6 rf' HP6
              go_region_held3 (fun w' => w'.cell? ⟨g, 15, none⟩ = some (.slice (some ⟨gl4, 0, none⟩) n lk4) ∧ w'.cell? ⟨g, 13, none⟩ = some (.slice (some ⟨gt, 0, none⟩) R3.rs.length tc) ∧ w'.cell? ⟨gl4, k * 9 + 6, none⟩ = some (.int .i64 (o.sends + 1)) ∧ w'.cell? ⟨gt, p * 8 + 2, none⟩ = some (encStr r.b.id) ∧ w'.cell? ⟨gt, p * 8 + 3, none⟩ = some (encStr r.b.body)) (go_keep)
                (first | (refine step_append_lies _ (by rfl) _ _ _ (by rfl) 0 68 i0 (.agg #[.int .i64 0, .int .i64 0, .string ⟨#[]⟩, .string ⟨#[]⟩]) 4 48 Tryz.underlying65 hi hz0 hz1 hz2 rfl (by omega) (.slice ea m ek) m _ (by rfl) ((HRV.out.1.alloc _).drew) ⟨V3.heap.size, 0, none⟩ 1 1 sd.cells (by rfl) (by rfl) (World.news_of_block (cs := sd.cells.toArray) (t := 68) (fr := (0, 0)) (by rw [Hsd.out]; exact heap_alloc_new V3 _)) (by rw [Hsd.out]; simp [Value.oneCell', Sd.cells, encStr]) (by omega) (by unfold maxLen; omega) (by omega) (Nat.zero_le _) (V3.heap.size + 1) (by simp) ?_; intro g5 cap5 w5 hown5 hg5 hat5 hlt5; have HE5 := hide (HEnd.out g5 cap5 w5 hown5 (by rw [Hsd.out]; exact hg5) hat5); obtain ⟨z15, z13, z6, zi, zb⟩ := HE5.out.2; clear hown5 hg5 hat5))
              all_goals
                go_wp2_with fail
                go_roundg (gk - 1)
                case measure => omega
                case rel =>
                  obtain ⟨⟨L5, r1, r2, r3, r4⟩, _⟩ := HE5.out
                  exact ⟨k + 1, L5, some ⟨g5, 0, none⟩, m + 1, cap5, by omega, by go_num, rfl, r2, r1, r3, r4⟩
          · have hyes : 0 ≤ o.way ∨ (o.trip = true ∧ R3.time < o.unt) := by
              simp only [Bool.or_eq_true, Bool.and_eq_true, decide_eq_true_eq] at hbb
              exact hbb
            rw [if_pos hyes] at HTo
            clear hyes hbb
            go_wp2_with fail
            go_roundg (gk - 1)
            case measure => omega
            case rel =>
              refine ⟨k + 1, L2, ea, m, ek, by omega, by go_num, rfl, ?_, ?_, ?_, HS2.out.trans (Step.drewN L2 wr q)⟩
              · rw [HStep.out, HTo.out]; simp only [List.append_nil]; exact Hm.out
              · rw [HStep.out, HTo.out]; simp only [List.append_nil]; exact Hrow.out.keep (Step.drewN (p := fun _ => False) L2 wr q) (fun h => h)
              · rw [HStep.out, HTo.out]; exact HA2.out.keep (Step.drewN (p := fun _ => False) L2 wr q) (fun _ h => h)
        · have hkn : n = k := by omega
          subst hkn
          rw [← hR3] at HA2
          go_wp2_with fail
          go_ret2
          rw [HTk.out]
          refine ⟨.slice ea m ek, L2, rfl, ?_, HA2.out, HS2.out.fresh Hfr.out⟩
          rw [Hxs.out, ← Hm.out]
          exact Hrow.out
end Go.Proofs.YtojpjaifhjigfaaGreatDoor

/- Tick: the document's side, from what stands between the two agents. -/
namespace Go.Proofs.YtojpjaifhjigfaaGreatDoor
open Go.RowKit Go.Maps

theorem Sim.line' {M : Ag} {R : Rf} (h : Sim M R) {d : Nat} {l : Out} (hl : R.ls[d]? = some l) : ∃ o, M.os[d]? = some o ∧ OutSim o l := by
  have hd := (List.getElem?_eq_some_iff.1 hl).1
  have ho : M.os[d]? = some (M.os[d]'(by rw [← h.len]; exact hd)) := List.getElem?_eq_getElem _
  exact ⟨_, ho, h.ls d _ l ho hl⟩

theorem refTick_any (L : Labs) (who g : Nat) (M : Ag) (R : Rf) (t : Nat) (ms draw : Int) (w : World) (h : RefAt w L who g R) (hs : Sim M R) (hi : Inv M t) (ht : t + 1 ≤ 10000000000000) (h0 : 0 ≤ ms) (h1 : ms ≤ 60000) (hd : 0 ≤ draw) :
    Calls Tryz.prog 88 #[.pointer (some ⟨g, 0, none⟩), .int .i64 ms, .int .i64 draw] w fun e w' => ∃ l, TickedR w L l who g (R.ticked ms draw) e w' := by
  obtain ⟨N, hN⟩ := fresh_owner L w.heap.size
  have hl := hi.later h0 h1
  have hsl := sim_later hs h0
  have hdd := Cfg.num_d hi.good.1
  have hol := hi.ol
  have hln := hs.len
  have hn0 := hi.nw0
  have hn1 := hi.nw1
  have hti : 1 ≤ M.c.ti ∧ M.c.ti ≤ 60000 := by
    have := List.all_eq_true.1 hi.good.1 (M.c.ti, 1, 60000) (by simp [Cfg.nums])
    simpa [inB] using this
  obtain ⟨q1, q2, q3⟩ := hs.behind hi ht h0 h1 hd
  refine (refTick_core L (some (N + who + 1, Part.ag)) who g R ms draw w (not_ofP (by omega) _) (fun k hk e => by have := hN k hk _ _ e; omega) h h0 h1 hd (by omega) (by rw [hs.time]; exact hn0) (by rw [hs.time]; omega) (fun k o ho => ?_) (by rw [hs.c]; omega) (fun k o ho => ?_)).mono (fun e w' h => ⟨_, h⟩)
  · have s1 := sim_overs hsl hl ht hd k
    obtain ⟨i1, i2, i3, i4, i5, i6⟩ := overs_os hl ht hd k
    obtain ⟨o', ho', hoo⟩ := s1.line' ho
    obtain ⟨_, _, _, _, _, _, _, a8, a9⟩ := i1.os k o' ho'
    have e1 : ((R.later ms).overs draw k).time = R.time + ms := by rw [s1.time, i5, hs.time]; rfl
    refine ⟨e1, by rw [s1.c, i6, hs.c]; rfl, by rw [hoo.began]; exact a8, ?_, fun hw => (s1.overs_step hl ht hd).2 o ho hw⟩
    rw [hoo.began]
    have : ((M.later ms).overs draw k).now = M.now + ms := i5
    omega
  · obtain ⟨s1, _⟩ := sim_sentOut q1 q2 ht q3 k
    have i1 := q2.sentOut ht q3 k
    obtain ⟨o', ho', hoo⟩ := s1.line' ho
    obtain ⟨_, _, _, _, _, a6, a7, _, _⟩ := i1.os k o' ho'
    have b0 := i1.nw0
    have b1 := i1.nw1
    exact ⟨s1.namedOk i1 ho' ho, by rw [hoo.sends]; exact a6, by rw [hoo.sends]; omega, by rw [s1.time]; exact b0, by rw [s1.time]; omega⟩
end Go.Proofs.YtojpjaifhjigfaaGreatDoor

/- Reply: the document's side. -/
namespace Go.Proofs.YtojpjaifhjigfaaGreatDoor
open Go.RowKit Go.Maps

/-- What the document answers to a Reply. -/
def Rf.stale (R : Rf) (d try' draw : Int) : Nat := if d < 0 ∨ R.c.d ≤ d then 3 else if draw < 0 then 10 else match R.ls[d.toNat]? with | none => 11 | some l => if l.way < 0 ∨ l.sends ≠ try' then 11 else 0
def Rf.answered (R : Rf) (d try' : Int) (good : Bool) (draw : Int) : Rf := if R.stale d try' draw = 0 then R.over d.toNat good draw else R

theorem refReply_no (n : Nat) {R : Rf} {d try' draw : Int} {good : Bool} {w w' : World} {L : Labs} {who g : Nat} (hn : R.stale d try' draw = n) (h0 : n ≠ 0) (hB : Below w.heap.size w w') (hR : RefAt w L who g R) :
    Ending.returned (.int .i64 (n : Int)) = Ending.returned (.int .i64 (R.stale d try' draw)) ∧ TurnedR w L who g (R.answered d try' good draw) w' := by
  have e : R.answered d try' good draw = R := if_neg (by rw [hn]; exact h0)
  rw [e, hn]
  exact ⟨rfl, L, hR.keep (Step.of_below (p := fun _ => False) hB) (fun _ h => h), Step.of_below hB⟩

set_option maxRecDepth 100000 in
set_option maxHeartbeats 4000000 in
theorem refReply_any (L : Labs) (who g : Nat) (M : Ag) (R : Rf) (t : Nat) (d try' : Int) (good : Bool) (draw : Int) (w : World) (h : RefAt w L who g R) (hS : Sim M R) (hI : Inv M t) (ht : t ≤ 10000000000000) :
    Calls Tryz.prog 90 #[.pointer (some ⟨g, 0, none⟩), .int .i64 d, .int .i64 try', .bool good, .int .i64 draw] w fun e w' => e = .returned (.int .i64 (R.stale d try' draw)) ∧ TurnedR w L who g (R.answered d try' good draw) w' := by
  have hdd := (Cfg.ok hI.good.1).d
  rw [← hS.c] at hdd
  have HNo := hide (fun n hn h0 q => refReply_no (good := good) (d := d) (try' := try') (draw := draw) (w' := w.drewN q) n hn h0 (below_drewN (Below.refl _ w) q) h)
  have HR := hide h
  obtain ⟨nv, qv, bv, dv, la, lk, h⟩ := h
  have htn : ((R.c.d.toNat : Nat) : Int) = R.c.d := Int.toNat_of_nonneg (by omega)
  have c15 : w.cell? ⟨g, 15, none⟩ = some (.slice la R.c.d.toNat lk) := h.blk.1.cell 15
  have HH := hide h
  clear h
  by_cases h1 : d < 0
  · go_enter Tryz.func90, Tryz.ntmps90
    go_wp2_with fail
    go_ret
    exact HNo.out 3 (by unfold Rf.stale; rw [if_pos (Or.inl h1)]) (by decide) 0
  have h1d : decide (d < 0) = false := by simpa using h1
  by_cases h2 : R.c.d ≤ d
  · have h2' : ((R.c.d.toNat : Nat) : Int) ≤ d := by omega
    have h2d : decide (((R.c.d.toNat : Nat) : Int) ≤ d) = true := by simpa using h2'
    go_enter Tryz.func90, Tryz.ntmps90
    go_wp2_with fail
    go_ret
    exact HNo.out 3 (by unfold Rf.stale; rw [if_pos (Or.inr h2)]) (by decide) 0
  have h2d : decide (((R.c.d.toNat : Nat) : Int) ≤ d) = false := by simp; omega
  have h12 : ¬ (d < 0 ∨ R.c.d ≤ d) := by omega
  have H12 := hide h12
  obtain ⟨k, rfl⟩ : ∃ k : Nat, d = k := ⟨d.toNat, by omega⟩
  have hkI : (k : Int) < ((R.c.d.toNat : Nat) : Int) := by omega
  have hkl : k < R.ls.length := by rw [HH.out.ln]; omega
  by_cases h3 : draw < 0
  · have h3d : decide (draw < 0) = true := by simpa using h3
    clear h12
    go_enter Tryz.func90, Tryz.ntmps90
    go_wp2_with fail
    go_ret
    exact HNo.out 10 (by unfold Rf.stale; rw [if_neg H12.out, if_pos h3]) (by decide) 0
  have h3d : decide (draw < 0) = false := by simpa using h3
  obtain ⟨l, hl⟩ : ∃ l, R.ls[k]? = some l := ⟨_, List.getElem?_eq_getElem hkl⟩
  obtain ⟨gl, rfl, hF⟩ := HH.out.focus hl
  obtain ⟨ca, ck, hC⟩ := hF.cells
  have l7 := hC.c7
  have l6 := hC.c6
  have hst : R.stale k try' draw = if l.way < 0 ∨ l.sends ≠ try' then 11 else 0 := by
    unfold Rf.stale
    rw [if_neg h12, if_neg h3, Int.toNat_natCast, hl]
  have Hst := hide hst
  have Hl := hide hl
  clear hC hF hst h12 hl
  by_cases h4 : l.way < 0
  · have h4d : decide (l.way < 0) = true := by simpa using h4
    have HE : Hid (R.stale k try' draw = 11) := by show _ = _; rw [Hst.out, if_pos (Or.inl h4)]
    go_enter Tryz.func90, Tryz.ntmps90
    go_wp2_with fail
    go_ret
    exact HNo.out 11 HE.out (by decide) 0
  have h4d : decide (l.way < 0) = false := by simpa using h4
  by_cases h5 : l.sends = try'
  · have h5b : (l.sends != try') = false := by simp [h5]
    have HE : Hid (R.stale k try' draw = 0) := by show _ = _; rw [Hst.out, if_neg (by rintro (e | e); exact h4 e; exact e h5)]
    have hok : k < M.os.length := by rw [← hS.len]; exact hkl
    obtain ⟨o, ho⟩ : ∃ o, M.os[k]? = some o := ⟨_, List.getElem?_eq_getElem hok⟩
    have hol := hS.ls k o l ho Hl.out
    obtain ⟨_, p, l', r, hl', hp, hOk, hov⟩ := sim_replied hS hI ht (by omega : 0 ≤ draw) ho (by have := hol.way; omega) good
    rw [Hl.out] at hl'
    cases hl'
    have HA : Hid (R.answered k try' good draw = R.overed k p l r good draw) := by
      show _ = _
      unfold Rf.answered
      rw [if_pos HE.out, Int.toNat_natCast]
      exact hov
    have HOv := hide (fun q => refOver_any L who g k p R l r good draw (w.drewN q) (HR.out.keep (Step.drewN (p := fun _ => False) L w q) (fun _ h => h)) hOk)
    have H5 := hide h5
    clear hol hOk hov ho h5
    go_enter Tryz.func90, Tryz.ntmps90
    go_wp2_with fail
    refine (HOv.out 0).mono ?_
    rintro e w' ⟨rfl, L', hA', hS'⟩
    have HA' := hide hA'
    have HS' := hide hS'
    clear hA' hS'
    go_wp2_with fail
    go_ret
    rw [HE.out, HA.out]
    exact ⟨rfl, L', HA'.out, (Step.drewN L w 0).trans HS'.out⟩
  · have h5b : (l.sends != try') = true := by simp [h5]
    have HE : Hid (R.stale k try' draw = 11) := by show _ = _; rw [Hst.out, if_pos (Or.inr h5)]
    go_enter Tryz.func90, Tryz.ntmps90
    go_wp2_with fail
    go_ret
    exact HNo.out 11 HE.out (by decide) 0
end Go.Proofs.YtojpjaifhjigfaaGreatDoor
