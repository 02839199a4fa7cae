/- Steps of the proof (several texts in one): NamedWalk, ProofBaseB. -/
import Derived.Test.YtojpjaifhjigfabGreatDoorMTwo29
import Derived.Test.YtojpjaifhjigfabGreatDoorMTwo28
import Derived.Test.YtojpjaifhjigfabGreatDoorRows
import Derived.Test.YtojpjaifhjigfabGreatDoorCards
import Derived.Test.YtojpjaifhjigfabGreatDoorTie
import Derived.Test.YtojpjaifhjigfabGreatDoorMTwo02
import Derived.ProofKit
import Derived.LaidMore
import Derived.OpenShut
import Derived.Stop.Joined
import Derived.SevenTiedAt

/- conduitkeep.Named. -/
namespace Go.Proofs.YtojpjaifhjigfabGreatDoor
open Go.RowKit Go.Maps

/-- One of three runs. -/
structure NA (wr : World) (L : Labs) (gr g cm : Nat) (zs : List Int) (N : Nat) (R : Rn) (M : Ag) (t : Nat) : Prop where
  al : AlAt wr L gr g cm zs R M t
  li : LInv M
  c : M.c = madeC zs
  D : M.D = DT (madeT zs N)
  ns : M.ns = kn.take N
  ids : ∀ (i : Nat) b, M.bs[i]? = some b → b.id = kid i
theorem NA.below {wr w' : World} {L : Labs} {gr g cm : Nat} {zs : List Int} {N : Nat} {R : Rn} {M : Ag} {t : Nat} (h : NA wr L gr g cm zs N R M t) (hb : Below wr.heap.size wr w') : NA w' L gr g cm zs N R M t := ⟨h.al.below hb, h.li, h.c, h.D, h.ns, h.ids⟩
theorem NA.apart {wr w' : World} {L L1 L1' : Labs} {gr g cm : Nat} {zs : List Int} {N : Nat} {R : Rn} {M : Ag} {t : Nat} (h : NA wr L gr g cm zs N R M t) (s : Step (ofP 1) L1 wr L1' w') (hd : ∀ k, L k ≠ none → L1 k = none) : NA w' L gr g cm zs N R M t := by
  have s2 : Step (fun l => l = none) L wr L w' := ⟨s.os, s.tape, s.output, s.size, fun _ _ => rfl, fun k hk hne => s.block k hk (by rw [hd k hne]; exact fun ⟨q, e⟩ => by cases e)⟩
  exact ⟨⟨h.al.run.keep s2 (fun q e => by cases e), h.al.ag.keep s2 (fun q e => by cases e), h.al.bs, h.al.i, h.al.f100⟩, h.li, h.c, h.D, h.ns, h.ids⟩
theorem NA.compacted {wr w' : World} {L L' : Labs} {gr g cm : Nat} {zs : List Int} {N : Nat} {R : Rn} {M : Ag} {t : Nat} (h : NA wr L gr g cm zs N R M t) (hA : AgentAt w' L' 1 g M.compacted) (s : Step (ofP 1) L wr L' w') : NA w' L' gr g cm zs N R M.compacted (t + 200) := by
  have hl : M.bs.length ≤ 100 := by rw [← h.al.bs, List.length_map]; exact h.al.f100
  exact ⟨⟨h.al.run.agent s, hA, h.al.bs, h.al.i.compacted, h.al.f100⟩, h.li.compacted h.al.i h.ids hl, h.c, h.D, h.ns, h.ids⟩
theorem NA.x {wr : World} {L : Labs} {gr g cm : Nat} {zs : List Int} {N : Nat} {R : Rn} {M : Ag} {t : Nat} (h : NA wr L gr g cm zs N R M t) : wr.cell? ⟨gr, 0, none⟩ = some (.pointer (some ⟨g, 0, none⟩)) := by
  obtain ⟨_, _, _, q, _⟩ := h.al.cells rfl
  exact q
theorem NA.log_ne {wr wr' : World} {L L' : Labs} {gr g cm gr' g' cm' : Nat} {zs : List Int} {N : Nat} {R R' : Rn} {M M' : Ag} {t t' : Nat} (h : NA wr L gr g cm zs N R M t) (h' : NA wr' L' gr' g' cm' zs N R' M' t') (hne : ¬ (M.bs = M'.bs ∧ M.dead = M'.dead)) : M.log ≠ M'.log := fun e => hne (core_eq h.li h'.li (h.c.trans h'.c.symm) (h.D.trans h'.D.symm) (h.ns.trans h'.ns.symm) e)
/-- A run out of played, its labels within its own part of memory. -/
theorem RunQ.na {w wr : World} {zs : List Int} {N t gr : Nat} {p : Ag × Nat} (h : RunQ w zs N t gr p wr) : ∃ g cm R L, NA wr L gr g cm zs N R p.1 t ∧ ∀ k, L k ≠ none → w.heap.size ≤ k ∧ k < wr.heap.size := by
  obtain ⟨g, cm, R, L, k1, k2⟩ := h
  have q := k1.clip
  refine ⟨g, cm, R, clip L wr.heap.size, ⟨⟨q.at', q.ag, q.bs, q.inv, by rw [← q.n]; exact q.n100⟩, q.linv, q.c, q.D, q.ns, q.ids⟩, fun k hk => ?_⟩
  rcases Nat.lt_or_ge k w.heap.size with h1 | h1
  · exact absurd (q.lo k h1) hk
  · rcases Nat.lt_or_ge k wr.heap.size with h2 | h2
    · exact ⟨h1, h2⟩
    · exact absurd (clip_none L h2) hk

set_option maxRecDepth 100000 in
set_option maxHeartbeats 16000000 in
theorem named_any (A : Nat → Addr) (la sa ma : Option Addr) (cap scap mcap : Nat) (zs : List Int) (ss ms : List St) (w : World) (hS : Sents.Holds w 197 gl 11 A) (hr : ∀ z ∈ zs, InR z) (h : IntsAt w la zs) (h2 : StepsAt w sa ss) (hok : ∀ s ∈ ss, s.Ok) (hlen : ss.length ≤ 3600000000000) (h3 : StepsAt w ma ms) (hok3 : ∀ s ∈ ms, s.Ok) (hlen3 : ms.length ≤ 3600000000000) :
    Calls Tryz.prog 3 #[.slice la zs.length cap, .slice sa ss.length scap, .slice ma ms.length mcap] w fun e w' => e = .returned (.bool true) ∧ Below w.heap.size w w' := by
  obtain ⟨N, hN⟩ : ∃ N, N = 1 + pickN (zs.getD 9 0) 4 := ⟨_, rfl⟩
  have HP := hide (fun W (hW : Below w.heap.size w W) => kplayed_q A la sa cap scap zs ss N hN W (hS.below hW) hr (h.below hW) (h2.below hW) hok hlen)
  have HP3 := hide (fun W (hW : Below w.heap.size w W) => kplayed_q A la ma cap mcap zs ms N hN W (hS.below hW) hr (h.below hW) (h3.below hW) hok3 hlen3)
  generalize playedP zs N ss = P at *
  generalize playedP zs N ms = P3 at *
  generalize zs.length = nz at *
  generalize hns : ss.length = ns at *
  generalize hnm : ms.length = nm at *
  clear h hr hS h2 hok hns hN h3 hok3 hnm hlen hlen3
  go_enter Tryz.func3, Tryz.ntmps3
  go_wp2_with fail
  refine (HP.out w (Below.refl _ _)).mono ?_
  rintro e w1 ⟨gr1, rfl, hQ1⟩
  have hB1 := hQ1.b
  obtain ⟨g1, cm1, R1, L1, hA1, hl1⟩ := hQ1.na
  have HA1 := hide hA1
  have Hl1 := hide hl1
  have HB1 := hide hB1
  clear hQ1 hA1 hl1 hB1
  go_wp2_with fail
  refine (HP.out w1 HB1.out).mono ?_
  rintro e w2 ⟨gr2, rfl, hQ2⟩
  have hB2 := hQ2.b
  obtain ⟨g2, cm2, R2, L2, hA2, hl2⟩ := hQ2.na
  have HA1b := hide (HA1.out.below hB2)
  have HB2 := hide (HB1.out.trans (hB2.mono HB1.out.size))
  have hs12 : w1.heap.size ≤ w2.heap.size := hB2.size
  have HA2 := hide hA2
  have Hl2 := hide hl2
  clear hQ2 hA2 hl2 hB2 HA1 HP
  go_wp2_with fail
  refine (HP3.out w2 HB2.out).mono ?_
  rintro e w3 ⟨gr3, rfl, hQ3⟩
  have hB3 := hQ3.b
  obtain ⟨g3, cm3, R3, L3, hA3, hl3⟩ := hQ3.na
  have hN1 := HA1b.out.below hB3
  have hN2 := HA2.out.below hB3
  have HB3 := hide (HB2.out.trans (hB3.mono HB2.out.size))
  have hs23 : w2.heap.size ≤ w3.heap.size := hB3.size
  have HN1 := hide hN1
  have HN2 := hide hN2
  have HN3 := hide hA3
  have Hl3 := hide hl3
  have x1 := hN1.x
  have x2 := hN2.x
  have x3 := hA3.x
  have HG1 := hide (log_any L1 1 g1 P.1 w3 hN1.al.ag)
  have HG2 := hide (log_any L2 1 g2 P.1 w3 hN2.al.ag)
  have HG3 := hide (log_any L3 1 g3 P3.1 w3 hA3.al.ag)
  have HAl := hide (kalike_any L1 L3 gr1 g1 cm1 gr3 g3 cm3 zs R1 R3 P.1 P3.1 _ _ w3 hN1.al hA3.al)
  clear hQ3 hA3 hl3 hB3 hN1 hN2 HA1b HA2 HP3
  go_wp2_with fail
  refine HG1.out.mono ?_
  rintro e w' ⟨rfl, rfl⟩
  go_wp2_with fail
  refine HG2.out.mono ?_
  rintro e w' ⟨rfl, rfl⟩
  go_wp2_with fail
  refine HG3.out.mono ?_
  rintro e w' ⟨rfl, rfl⟩
  go_wp2_with fail
  refine HAl.out.mono ?_
  rintro e w4 ⟨sm, rfl, hsm, hb4⟩
  have hs34 := hb4.size
  have hM1 := HN1.out.below hb4
  have hM2 := HN2.out.below hb4
  have hM3 := HN3.out.below hb4
  have x1 := hM1.x
  have hne : sm = false → P.1.log ≠ P3.1.log ∧ P.1.compacted.log ≠ P3.1.compacted.log := fun e => by
    have hd : ¬ (P.1.bs = P3.1.bs ∧ P.1.dead = P3.1.dead) := fun ⟨q1, q2⟩ => by rw [hsm q1 q2] at e; cases e
    refine ⟨hM1.log_ne hM3 hd, fun e2 => hd ?_⟩
    have hl1 : P.1.bs.length ≤ 100 := by rw [← hM1.al.bs, List.length_map]; exact hM1.al.f100
    have hl3 : P3.1.bs.length ≤ 100 := by rw [← hM3.al.bs, List.length_map]; exact hM3.al.f100
    exact core_eq (M := P.1.compacted) (M' := P3.1.compacted) (hM1.li.compacted hM1.al.i hM1.ids hl1) (hM3.li.compacted hM3.al.i hM3.ids hl3) (hM1.c.trans hM3.c.symm) (hM1.D.trans hM3.D.symm) (hM1.ns.trans hM3.ns.symm) e2
  have HC1 := hide (compact_any L1 1 g1 _ P.1 w4 hM1.al.ag hM1.al.i)
  have HM1 := hide hM1
  have HM2 := hide hM2
  have HM3 := hide hM3
  have HB4 := hide (HB3.out.trans (hb4.mono HB3.out.size))
  have Hne := hide hne
  have hq1 : (P.1.log == P3.1.log) = false ∨ sm = true := by
    cases sm with
    | true => exact Or.inr rfl
    | false => exact Or.inl (by simpa using (hne rfl).1)
  clear hsm hb4 hM1 hM2 hM3 hne HG1 HG2 HG3 HAl HN1 HN2 HN3 x2 x3
  go_upto_region 10 with fail
  go_cut [62] (fun s62 wx => s62 = .bool false ∧ w4 = wx)
  case first =>
    rcases hq1 with hq1 | rfl
    · cases sm
      all_goals
        go_wp2_with fail
        go_meet
        exact ⟨rfl, rfl⟩
    · go_wp2_with fail
      go_meet
      exact ⟨rfl, rfl⟩
  case rest =>
    obtain ⟨rfl, rfl⟩ := hcut
    clear hq1
    go_wp2_with fail
    refine HC1.out.mono ?_
    rintro e w5 ⟨rfl, L4, hA5, s5⟩
    have hr4 : ∀ k, L4 k ≠ none → k < w1.heap.size ∨ w4.heap.size ≤ k := fun k hk => by
      rcases Nat.lt_or_ge k w4.heap.size with hlt | hge
      · rw [s5.lab k hlt] at hk
        exact Or.inl (Hl1.out k hk).2
      · exact Or.inr hge
    have hN1 := HM1.out.compacted hA5 s5
    have hN2 := HM2.out.apart s5 (fun k hk => by
      have q2 := Hl2.out k hk
      by_cases e : L1 k = none
      · exact e
      · have := Hl1.out k e; omega)
    have hN3 := HM3.out.apart s5 (fun k hk => by
      have q3 := Hl3.out k hk
      by_cases e : L1 k = none
      · exact e
      · have := Hl1.out k e; omega)
    have hs45 := s5.size
    have HB5 : Hid (Below w.heap.size w w5) := HB4.out.trans (s5.below HB4.out.size (fun k hk => by
      by_cases e : L1 k = none
      · rw [e]; exact fun ⟨q, e⟩ => by cases e
      · have := Hl1.out k e; omega))
    have x2 := hN2.x
    have HC2 := hide (compact_any L2 1 g2 _ P.1 w5 hN2.al.ag hN2.al.i)
    have HN1 := hide hN1
    have HN2 := hide hN2
    have HN3 := hide hN3
    have Hr4 := hide hr4
    clear hA5 s5 hr4 hN1 hN2 hN3 HM1 HM2 HM3 HC1 x1 HB4
    go_wp2_with fail
    refine HC2.out.mono ?_
    rintro e w6 ⟨rfl, L5, hA6, s6⟩
    have hr5 : ∀ k, L5 k ≠ none → (w1.heap.size ≤ k ∧ k < w2.heap.size) ∨ w5.heap.size ≤ k := fun k hk => by
      rcases Nat.lt_or_ge k w5.heap.size with hlt | hge
      · rw [s6.lab k hlt] at hk
        exact Or.inl (Hl2.out k hk)
      · exact Or.inr hge
    have hK1 := HN1.out.apart s6 (fun k hk => by
      have q4 := Hr4.out k hk
      by_cases e : L2 k = none
      · exact e
      · have := Hl2.out k e; omega)
    have hK2 := HN2.out.compacted hA6 s6
    have hK3 := HN3.out.apart s6 (fun k hk => by
      have q3 := Hl3.out k hk
      by_cases e : L2 k = none
      · exact e
      · have := Hl2.out k e; omega)
    have hs56 := s6.size
    have hw1 : w.heap.size ≤ w1.heap.size := HB1.out.size
    have HB6 : Hid (Below w.heap.size w w6) := HB5.out.trans (s6.below HB5.out.size (fun k hk => by
      by_cases e : L2 k = none
      · rw [e]; exact fun ⟨q, e⟩ => by cases e
      · have := Hl2.out k e; omega))
    have x3 := hK3.x
    have HC3 := hide (compact_any L3 1 g3 _ P3.1 w6 hK3.al.ag hK3.al.i)
    have HK1 := hide hK1
    have HK2 := hide hK2
    have HK3 := hide hK3
    have Hr5 := hide hr5
    clear hA6 s6 hr5 hK1 hK2 hK3 HN1 HN2 HN3 HC2 x2 HB5
    go_wp2_with fail
    refine HC3.out.mono ?_
    rintro e w7 ⟨rfl, L6, hA7, s7⟩
    have hJ1 := HK1.out.apart s7 (fun k hk => by
      have q4 := Hr4.out k hk
      by_cases e : L3 k = none
      · exact e
      · have := Hl3.out k e; omega)
    have hJ2 := HK2.out.apart s7 (fun k hk => by
      have q5 := Hr5.out k hk
      by_cases e : L3 k = none
      · exact e
      · have := Hl3.out k e; omega)
    have hJ3 := HK3.out.compacted hA7 s7
    have HB7 : Hid (Below w.heap.size w w7) := HB6.out.trans (s7.below HB6.out.size (fun k hk => by
      by_cases e : L3 k = none
      · rw [e]; exact fun ⟨q, e⟩ => by cases e
      · have := Hl3.out k e; omega))
    have x1 := hJ1.x
    have x2 := hJ2.x
    have x3 := hJ3.x
    have HG1 := hide (log_any _ 1 g1 P.1.compacted w7 hJ1.al.ag)
    have HG2 := hide (log_any _ 1 g2 P.1.compacted w7 hJ2.al.ag)
    have HG3 := hide (log_any _ 1 g3 P3.1.compacted w7 hJ3.al.ag)
    clear hA7 s7 hJ1 hJ2 hJ3 HK1 HK2 HK3 HC3 HB6
    go_wp2_with fail
    refine HG1.out.mono ?_
    rintro e w' ⟨rfl, rfl⟩
    go_wp2_with fail
    refine HG2.out.mono ?_
    rintro e w' ⟨rfl, rfl⟩
    go_wp2_with fail
    refine HG3.out.mono ?_
    rintro e w' ⟨rfl, rfl⟩
    cases sm with
    | true =>
      go_wp2_with fail
      go_ret
      exact ⟨rfl, HB7.out⟩
    | false =>
      have hq2 : (P.1.compacted.log == P3.1.compacted.log) = false := by simpa using (Hne.out rfl).2
      go_wp2_with fail
      go_ret
      exact ⟨rfl, HB7.out⟩
end Go.Proofs.YtojpjaifhjigfabGreatDoor

/- What every proof over this seat takes of the rows: the listed error variables, and a world that meets them. -/
namespace Go.Proofs.YtojpjaifhjigfabGreatDoor
open Go.ChangeShapes Go.WideShapes Go.ChangeAt Go.WideMaps Go.WideElems Go.RowKit

theorem own : ownKnob Tryz.prog.godebug = none := by kernel_rfl
theorem cells142 : Tryz.prog.cellsOf 211 = 1 := by kernel_rfl
theorem cells9 : Tryz.prog.cellsOf 9 = 1 := by kernel_rfl
theorem star : "*" ++ "errors.errorString" = "*errors.errorString" := by decide
theorem row121 (u : TypeId) (h : Tryz.prog.typeName? 3 u = some "*errors.errorString") : u = 197 :=
  typeName_ptr_named (nm := "errors.errorString") (by rw [star]; kernel_rfl) (by kernel_rfl) (by decide) u (by rw [star]; exact h)

/-- The listed variables, as the condition has them. -/
abbrev laidAll : List (String × DataW Unit) := Rows.namedRow.laid

theorem listed : Sents.Listed Tryz.prog 40 "*errors.errorString" gl laidAll :=
  ⟨⟨_, rfl⟩, by kernel_rfl, by kernel_rfl, ⟨_, rfl⟩, by kernel_rfl, by kernel_rfl, ⟨_, rfl⟩, by kernel_rfl, by kernel_rfl, ⟨_, rfl⟩, by kernel_rfl, by kernel_rfl, ⟨_, rfl⟩, by kernel_rfl, by kernel_rfl, ⟨_, rfl⟩, by kernel_rfl, by kernel_rfl,
   ⟨_, rfl⟩, by kernel_rfl, by kernel_rfl, ⟨_, rfl⟩, by kernel_rfl, by kernel_rfl, ⟨_, rfl⟩, by kernel_rfl, by kernel_rfl, ⟨_, rfl⟩, by kernel_rfl, by kernel_rfl, ⟨_, rfl⟩, by kernel_rfl, by kernel_rfl, trivial⟩

theorem sents_of {W : World} (h : laidMetH Tryz.prog laidAll W) : ∃ A : Nat → Addr, Sents.Holds W 197 gl 11 A := by
  rw [MakeChecks.laidMetH_plain _ _ _ (by kernel_rfl)] at h
  exact Sents.of_laid Tryz.underlying40 row121 Tryz.underlying197 Tryz.underlying211 rfl rfl Tryz.underlying9 cells142 cells9 listed h

/-- The door's own heap meets the condition. -/
theorem door_met (os : Os) (args : Array Value) : laidMetH Tryz.prog laidAll ((World.doorLaid Tryz.prog 400 os).forCall (fun _ _ => 0) ⟨#[], args, []⟩).memory :=
  laidMetH_of_parts3 (fuel := 8) (laidMet_of_run' 8 (by kernel_rfl) (by kernel_rfl)) (by kernel_rfl) (by kernel_rfl)

end Go.Proofs.YtojpjaifhjigfabGreatDoor
