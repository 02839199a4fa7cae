/- Steps of the proof (several texts in one): GiveUp2, Heads, Turns, Pass, Pick. -/
import Derived.Test.YtojpjaifhjigfaaGreatDoorMAllupto12
import Derived.Test.YtojpjaifhjigfaaGreatDoorMAllupto11
import Derived.BigRegion
import Derived.Test.YtojpjaifhjigfaaGreatDoorMAllupto09
import Derived.Deep.LoopGhost

/- giveUp: the walk. -/
namespace Go.Proofs.YtojpjaifhjigfaaGreatDoor
open Go.RowKit Go.Maps

theorem infoEvent3 : (Tryz.prog.info? 151).map (fun i => (i.zero, i.size, i.bytes)) = some (some (.agg #[.int .i64 0, .int .i64 0, .string ⟨#[]⟩, .string ⟨#[]⟩, .string ⟨#[]⟩, .int .i64 0, .int .i64 0]), 7, 80) := by kernel_rfl

/-- An owner that nobody is yet. -/
theorem fresh_owner (L : Labs) : ∀ n : Nat, ∃ N : Nat, ∀ k, k < n → ∀ m q, L k = some (m, q) → m < N
  | 0 => ⟨0, fun k hk => by omega⟩
  | n + 1 => by
    obtain ⟨N, hN⟩ := fresh_owner L n
    refine ⟨N + (match L n with | some (m, _) => m + 1 | none => 0), fun k hk m q h => ?_⟩
    rcases Nat.lt_succ_iff_lt_or_eq.1 hk with h1 | h1
    · have := hN k h1 m q h
      omega
    · subst h1
      rw [h]
      simp only
      omega
theorem Step.fresh {p : Lab → Prop} {l : Lab} {L L' : Labs} {w w' : World} (s : Step (fun x => p x ∨ x = l) L w L' w') (h : ∀ k, k < w.heap.size → L k ≠ l) : Step p L w L' w' :=
  ⟨s.os, s.tape, s.output, s.size, s.lab, fun k hk hn => s.block k hk (fun e => by
    rcases e with e | e
    · exact hn e
    · exact h k hk e)⟩

/-- What giveUp leaves. -/
def GaveUp (w : World) (L : Labs) (l : Lab) (who g : Nat) (x : Ag × List Ev) (e : Ending) (w' : World) : Prop := ∃ v L', e = .returned v ∧ RowAt w' L' l 151 7 v x.2.length (x.2.flatMap Ev.cells) ∧ AgentAt w' L' who g x.1 ∧ Step (ofP who) L w L' w'

set_option maxRecDepth 100000 in
set_option maxHeartbeats 4000000 in
theorem giveUp_any (L : Labs) (l : Lab) (who g : Nat) (M : Ag) (draw : Int) (w : World) (hl : ¬ ofP who l) (hfr : ∀ k, k < w.heap.size → L k ≠ l) (hA : AgentAt w L who g M) (h : GiveOk M draw) :
    Calls Tryz.prog 69 #[.pointer (some ⟨g, 0, none⟩), .int .i64 draw] w fun e w' => GaveUp w L l who g (M.gaveUp draw M.os.length) e w' := by
  have ho4 := h.o4
  have hti := h.c.ti
  have hn0 := h.n0
  have hn1 := h.n1
  have HG := hide (gaveUp_gave h)
  have HL := hide (fun k => gaveUp_len (M := M) (draw := draw) k)
  have H := hide h
  have HA := hide hA
  have Hfr := hide hfr
  have c18 : ∃ oa ok, w.cell? ⟨g, 18, none⟩ = some (.slice oa M.os.length ok) := by
    obtain ⟨bq, bm, cn, tv, dv, nv, rv, ov, q⟩ := hA
    obtain ⟨fs, h1, h2, h3⟩ := q.ol
    obtain ⟨oa, ok, rfl, _⟩ := h2.shape
    exact ⟨oa, ok, q.blk.1.cell 18⟩
  obtain ⟨oa, ok, c18⟩ := c18
  obtain ⟨i0, hi, hz0, hz1, hz2⟩ := info_parts infoEvent3
  generalize hn : M.os.length = n at *
  have Hn := hide hn
  clear h hA hfr hn
  go_enter Tryz.func69, Tryz.ntmps69
  go_wp2_with fail
  go_loopw [5, 13] (fun t i wr => ∃ (k : Nat) (L1 : Labs) (ea : Option Addr) (m ek : Nat), k ≤ n ∧ i = .int .i64 k ∧ t = .slice ea m ek ∧ m = (M.gaveUp draw k).2.length ∧ RowAt wr L1 l 151 7 (.slice ea m ek) m ((M.gaveUp draw k).2.flatMap Ev.cells) ∧ AgentAt wr L1 who g (M.gaveUp draw k).1 ∧ Step (fun x => ofP who x ∨ x = l) L w L1 wr) (fun _ i _ => n - (intOf i).toNat)
  case atStart => exact ⟨0, L, none, 0, 0, Nat.zero_le _, rfl, rfl, rfl, RowAt.nil _ _ _ _ _, HA.out, Step.refl _ _ _⟩
  case round =>
    obtain ⟨k, L1, ea, m, ek, hk, rfl, rfl, hm, hrow, hA1, hS1⟩ := hrel
    have Hm := hide hm
    have Hrow := hide hrow
    have HA1 := hide hA1
    have HS1 := hide hS1
    have hm4 : m ≤ 4 := by rw [hm]; have := HL.out k; omega
    clear hm hrow hA1 hS1
    by_cases hlt : k < n
    · have hltI : (k : Int) < (n : Int) := by omega
      obtain ⟨o, ho⟩ : ∃ o, M.os[k]? = some o := ⟨_, List.getElem?_eq_getElem (by rw [Hn.out]; exact hlt)⟩
      have hg := HG.out k
      obtain ⟨bq, bm, cn, tv, dv, nv, rv, ov, hAt⟩ := HA1.out
      obtain ⟨go, gk, rfl, hF⟩ := hAt.focus ((hg.os k (Nat.le_refl _)).trans ho)
      rw [hg.len, Hn.out] at hAt
      obtain ⟨g2, ca, ck, hC⟩ := hF.cells
      have d18 : wr.cell? ⟨g, 18, none⟩ = some (.slice (some ⟨go, 0, none⟩) n gk) := hAt.blk.1.cell 18
      have d16 : wr.cell? ⟨g, 16, none⟩ = some (.int .i64 M.now) := by have := hAt.blk.1.cell 16; rw [show _ = _ from this]; simp [agCells, hg.now]
      have d10 : wr.cell? ⟨g, 10, none⟩ = some (.int .i64 M.c.ti) := by have := hAt.blk.1.cell 10; rw [show _ = _ from this]; simp [agCells, hg.c]
      have e8 := hC.c8
      have e9 := hC.c9
      have hok := H.out.os k o ho
      have hb0 := hok.b0
      have hb1 := hok.b1
      have HStep : Hid (M.gaveUp draw (k + 1) = if o.way ≠ -1 ∧ M.c.ti ≤ M.now - o.began then (((M.gaveUp draw k).1.settled k false draw).1, (M.gaveUp draw k).2 ++ [((M.gaveUp draw k).1.settled k false draw).2]) else M.gaveUp draw k) := by
        show _ = _
        rw [Ag.gaveUp, ho]
      have HBusy := hide (fun w1 h1 => isBusy_any go (k * 10) o.way w1 h1)
      have Ho := hide ho
      have E8 := hide e8
      clear hAt hF hC hok ho hg
      by_cases hw : o.way = -1
      · have hwb : (o.way != -1) = false := by simp [hw]
        rw [hwb] at HBusy
        have Hw := hide hw
        clear hw hwb e8
        go_wp2_with fail
        go_quiet ((go_at_call 111; exact Calls.quiet_of_same (HBusy.out _ (by exact E8.out))))
        go_wp2_with fail
        go_roundw
        case rel =>
          refine ⟨k + 1, L1, ea, m, ek, by omega, by go_num, rfl, ?_, ?_, ?_, HS1.out.trans (Step.drewN L1 wr _)⟩
          · rw [HStep.out, if_neg (fun h => h.1 Hw.out)]; exact Hm.out
          · rw [HStep.out, if_neg (fun h => h.1 Hw.out)]; exact Hrow.out.keep (Step.drewN (p := fun _ => False) L1 wr _) (fun h => h)
          · rw [HStep.out, if_neg (fun h => h.1 Hw.out)]; exact HA1.out.keep (Step.drewN (p := fun _ => False) L1 wr _) (fun _ h => h)
        case measure => simp [intOf]; omega
      · have hwb : (o.way != -1) = true := by simp [hw]
        rw [hwb] at HBusy
        have Hw := hide hw
        clear hw hwb e8
        by_cases hto : M.c.ti ≤ M.now - o.began
        · have Hto := hide hto
          obtain ⟨p, b, r, hs, _⟩ := H.out.set (HG.out k) Ho.out Hw.out
          have HSet := hide (fun W hW => settle_any L1 who g k p (M.gaveUp draw k).1 o b r false draw W hW hs)
          obtain ⟨sx, hsx⟩ : ∃ sx, (M.gaveUp draw k).1.settled k false draw = sx := ⟨_, rfl⟩
          rw [hsx] at HSet HStep
          unfold Ev.val at HSet
          clear hs hsx
          go_wp2_with fail
          go_quiet ((go_at_call 111; exact Calls.quiet_of_same (HBusy.out _ (by exact E8.out))))
          go_wp2_with fail
          refine (HSet.out _ (HA1.out.keep (Step.drewN (p := fun _ => False) L1 wr _) (fun _ h => h))).mono ?_
          rintro e w2 ⟨rfl, L2, hA2, hS2⟩
          have HA2 := hide hA2
          have hS2' : Step (ofP who) L1 wr L2 w2 := (Step.drewN L1 wr _).trans hS2
          have HR2 := hide (Hrow.out.keep hS2' hl)
          have HS2 : Hid (Step (fun x => ofP who x ∨ x = l) L w L2 w2) := HS1.out.trans (hS2'.mono (fun x h => Or.inl h))
          clear hA2 hS2 hS2'
          go_wp2_with (first
            | (at_builtin; refine wpList_append_lies _ rfl _ _ 140 rfl 0 151 i0 (.agg #[.int .i64 0, .int .i64 0, .string ⟨#[]⟩, .string ⟨#[]⟩, .string ⟨#[]⟩, .int .i64 0, .int .i64 0]) 7 80 Tryz.underlying140 hi hz0 hz1 hz2 rfl (by decide) (.slice ea m ek) m _ rfl (HR2.out.1.alloc _) ⟨w2.heap.size, 0, none⟩ 1 1 sx.2.cells rfl rfl (World.news_of_block (cs := sx.2.cells.toArray) (t := 151) (fr := (0, 0)) (heap_alloc_new w2 _)) (by simp [Value.oneCell', Ev.cells, encStr]) (by decide) (by unfold maxLen; omega) (by omega) (Nat.zero_le _) (w2.heap.size + 1) (by simp) ?_; intro g3 cap3 w3 hown3 hg3 hat3 hlt3; have Ho3 := hide hown3; have Hg3 := hide hg3; have Hat3 := hide hat3; clear hown3 hg3 hat3)
            | fail)
          go_roundw
          case rel =>
            have hyes : o.way ≠ -1 ∧ M.c.ti ≤ M.now - o.began := ⟨Hw.out, Hto.out⟩
            have hat : (Value.slice ea m ek).ownBlock = some g3 ∨ (w2.alloc (.cells sx.2.cells.toArray 151)).heap.size ≤ g3 := Hat3.out.imp id (fun e => by simp; omega)
            have hR2' := HR2.out.keep (Step.alloc (p := fun _ => False) L2 w2 (.cells sx.2.cells.toArray 151)) (fun h => h)
            obtain ⟨hrow3, hlab3⟩ := RowAt.appended hR2' Ho3.out hat
            have hsa : Step (fun x => x = l) L2 w2 (lay L2 g3 l) w3 := (Step.alloc L2 w2 _).trans (Step.of_grown Hg3.out (fun j hj => hR2'.2 j hj) hlab3)
            refine ⟨k + 1, lay L2 g3 l, some ⟨g3, 0, none⟩, m + 1, cap3, by omega, by go_num, rfl, ?_, ?_, ?_, HS2.out.trans (hsa.mono (fun x h => Or.inr h))⟩
            · rw [HStep.out, if_pos hyes, List.length_append, Hm.out]; rfl
            · rw [HStep.out, if_pos hyes, List.flatMap_append]
              simpa using hrow3
            · rw [HStep.out, if_pos hyes]
              exact HA2.out.keep hsa (fun q h => hl ⟨q, h.symm⟩)
          case measure => simp [intOf]; omega
        · have Hto := hide hto
          go_wp2_with fail
          go_quiet ((go_at_call 111; exact Calls.quiet_of_same (HBusy.out _ (by exact E8.out))))
          go_wp2_with fail
          go_roundw
          case rel =>
            have hno : ¬ (o.way ≠ -1 ∧ M.c.ti ≤ M.now - o.began) := fun h => by have := Hto.out; omega
            refine ⟨k + 1, L1, ea, m, ek, by omega, by go_num, rfl, ?_, ?_, ?_, HS1.out.trans (Step.drewN L1 wr _)⟩
            · rw [HStep.out, if_neg hno]; exact Hm.out
            · rw [HStep.out, if_neg hno]; exact Hrow.out.keep (Step.drewN (p := fun _ => False) L1 wr _) (fun h => h)
            · rw [HStep.out, if_neg hno]; exact HA1.out.keep (Step.drewN (p := fun _ => False) L1 wr _) (fun _ h => h)
          case measure => simp [intOf]; omega
    · have hkn : k = n := by omega
      subst hkn
      go_wp2_with fail
      go_ret
      refine ⟨_, L1, rfl, ?_, HA1.out, HS1.out.fresh Hfr.out⟩
      rw [← Hm.out]
      exact Hrow.out
end Go.Proofs.YtojpjaifhjigfaaGreatDoor

/- head, sizeToGo: what stands at a queue's head, and whether it may go. -/
namespace Go.Proofs.YtojpjaifhjigfaaGreatDoor
open Go.RowKit Go.Maps

/-- The place at a queue's head: -1, if there is none. -/
def headOf (ps : List Nat) : Int := match ps with | [] => -1 | p :: _ => p

set_option maxRecDepth 100000 in
set_option maxHeartbeats 1000000 in
theorem head_any (L : Labs) (who g : Nat) (M : Ag) (d : Int) (t : List UInt8) (w : World) (hA : AgentAt w L who g M) (hl : LaneOk d t) :
    Calls Tryz.prog 143 #[.pointer (some ⟨g, 0, none⟩), .agg #[.int .i64 d, encStr t]] w fun e w' => e = .returned (.int .i64 (headOf (pend M.bs d t))) ∧ Below w.heap.size w w' := by
  obtain ⟨bq, bm, cn, tv, dv, nv, rv, ov, h⟩ := hA
  obtain ⟨D, hq, hsz, h4, hhas, hrow⟩ := h.qs
  obtain ⟨qa, ql, qc, hhd, hlook⟩ := look_queue hq.1 hl
  have hr0 := hrow d t hl
  rw [hhd] at hr0
  have hql : ql = (pend M.bs d t).length := by
    obtain ⟨a', c', e', _⟩ := hr0.shape
    simp at e'
    exact e'.2.1
  subst hql
  have hgl := h.blk.1.lt
  have c1 : w.cell? ⟨g, 1, none⟩ = some (.map (some bq)) := h.blk.1.cell 1
  have HLk : Hid (∀ V, Below w.heap.size w V → (Instr.lookup 132 (.map (some bq)) (.agg #[.int .i64 d, encStr t]) false).run Tryz.prog V = .ok (.slice qa (pend M.bs d t).length qc) V) := fun V hV => hlook V _ (ownsMap_of_block hq.1 (hV.block bq hq.1.lt))
  have Hr0 := hide hr0
  clear h hq hsz h4 hhas hrow hhd hlook hr0
  generalize hps : pend M.bs d t = ps at *
  clear hps
  cases ps with
  | nil =>
    simp only [List.length_nil] at HLk
    go_enter Tryz.func143, Tryz.ntmps143
    go_wp2_with fail
    generalize hV : World.alloc w _ = V
    have hBV : Below w.heap.size w V := by rw [← hV]; exact (Below.refl _ _).alloc (Nat.le_refl _) _
    have hNV : Blk V w.heap.size #[.int .i64 d, encStr t] 202 := by rw [← hV]; exact Blk.new _ _ _
    have d1 : V.cell? ⟨g, 1, none⟩ = some (.map (some bq)) := (hBV.cell (p := ⟨g, 1, none⟩) hgl).trans c1
    have l0 : V.cell? ⟨w.heap.size, 0, none⟩ = some (.int .i64 d) := hNV.cell 0
    have l1 : V.cell? ⟨w.heap.size, 1, none⟩ = some (encStr t) := hNV.cell 1
    have hlk := HLk.out V.drew hBV.drew
    have HBV := hide hBV
    clear hV hBV hNV
    go_region
    all_goals
      go_wp2_with fail
      go_ret
      exact ⟨rfl, HBV.out.drew⟩
  | cons p ps =>
    have hlen : (p :: ps).length = ps.length + 1 := rfl
    obtain ⟨gq, rfl, hgq, _, hcq, _⟩ := Hr0.out.head (by simp)
    have hc0 : w.cell? ⟨gq, 0, none⟩ = some (.int .i64 p) := hcq 0 _ rfl
    rw [hlen] at HLk
    clear hcq hlen
    have hpos : 0 < ((ps.length + 1 : Nat) : Int) := by omega
    generalize hn : ps.length + 1 = n at *
    clear hn
    go_enter Tryz.func143, Tryz.ntmps143
    go_wp2_with fail
    generalize hV : World.alloc w _ = V
    have hBV : Below w.heap.size w V := by rw [← hV]; exact (Below.refl _ _).alloc (Nat.le_refl _) _
    have hNV : Blk V w.heap.size #[.int .i64 d, encStr t] 202 := by rw [← hV]; exact Blk.new _ _ _
    have d1 : V.cell? ⟨g, 1, none⟩ = some (.map (some bq)) := (hBV.cell (p := ⟨g, 1, none⟩) hgl).trans c1
    have dq : V.cell? ⟨gq, 0, none⟩ = some (.int .i64 p) := (hBV.cell (p := ⟨gq, 0, none⟩) hgq).trans hc0
    have l0 : V.cell? ⟨w.heap.size, 0, none⟩ = some (.int .i64 d) := hNV.cell 0
    have l1 : V.cell? ⟨w.heap.size, 1, none⟩ = some (encStr t) := hNV.cell 1
    have hlk := HLk.out V.drew hBV.drew
    have HBV := hide hBV
    clear hV hBV hNV
    go_region
    all_goals
      go_wp2_with fail
      go_ret
      exact ⟨rfl, HBV.out.drew⟩

set_option maxRecDepth 100000 in
set_option maxHeartbeats 1000000 in
theorem sizeToGo_any (L : Labs) (who g : Nat) (M : Ag) (d : Nat) (t : List UInt8) (w : World) (hA : AgentAt w L who g M) (hl : LaneOk d t) (hrl : M.rt.length = M.bs.length) (hbl : ∀ b ∈ M.bs, b.body.length ≤ 63) :
    Calls Tryz.prog 141 #[.pointer (some ⟨g, 0, none⟩), .agg #[.int .i64 d, encStr t]] w fun e w' => e = .returned (.int .i64 (M.size d t)) ∧ Below w.heap.size w w' := by
  have HHd := hide (fun V (hV : Below w.heap.size w V) => head_any L who g M d t V (hA.keep (Step.of_below (p := fun _ => False) hV) (fun _ h => h)) hl)
  obtain ⟨bq, bm, cn, tv, dv, nv, rv, ov, h⟩ := hA
  obtain ⟨ta, tc, rfl, _⟩ := h.tk.shape
  obtain ⟨ra, rc, rfl, _⟩ := h.rt.shape
  have hgl := h.blk.1.lt
  have c0 : w.cell? ⟨g, 0, none⟩ = some (.slice ta M.bs.length tc) := h.blk.1.cell 0
  have c16 : w.cell? ⟨g, 16, none⟩ = some (.int .i64 M.now) := h.blk.1.cell 16
  have c17 : w.cell? ⟨g, 17, none⟩ = some (.slice ra M.rt.length rc) := h.blk.1.cell 17
  have HH := hide h
  have Hbl := hide hbl
  have Hrl := hide hrl
  unfold Ag.size
  cases hps : pend M.bs d t with
  | nil =>
    rw [hps] at HHd
    clear h hbl hrl hps
    go_enter Tryz.func141, Tryz.ntmps141
    go_wp2_with fail
    have hB0 := fun o => (Below.refl w.heap.size w).alloc (Nat.le_refl _) o
    go_cut [5] (fun s5 wx => s5 = .int .i64 (-1) ∧ Below w.heap.size w wx)
    case first =>
      go_region_with ((go_at_call 143; refine (HHd.out _ (by first | exact hB0 _ | exact (hB0 _).drew)).mono ?_; rintro e w2 ⟨rfl, hb2⟩))
      all_goals
        go_wp2_with fail
        go_meet
        refine ⟨rfl, (hB0 _).drew.trans (hb2.mono (by simp))⟩
    case rest =>
    obtain ⟨rfl, hb⟩ := hcut
    have Hb := hide hb
    clear hb
    go_wp2_with fail
    go_quiet (fail)
    go_wp2_with fail
    go_ret
    exact ⟨rfl, below_drewN Hb.out _⟩
  | cons p ps =>
    obtain ⟨b, hb, _⟩ := mem_pend.1 (show p ∈ pend M.bs d t by rw [hps]; simp)
    have hpl := (List.getElem?_eq_some_iff.1 hb).1
    obtain ⟨r, hr⟩ : ∃ r, M.rt[p]? = some r := ⟨_, List.getElem?_eq_getElem (by omega)⟩
    obtain ⟨gt, rfl, hgt, _, hct, _⟩ := h.tk.head (by omega)
    obtain ⟨gr, rfl, hgr, _, hcr, _⟩ := h.rt.head (by omega)
    have t3 : w.cell? ⟨gt, p * 6 + 3, none⟩ = some (encStr b.body) := hct _ _ (flat_cell Bat.cells 6 Bat.cells_length hb (by omega) rfl)
    have r0 : w.cell? ⟨gr, p * 2, none⟩ = some (.int .i64 r.fr) := hcr (p * 2 + 0) _ (flat_cell Ret.cells 2 (fun _ => rfl) hr (by omega) rfl)
    have hb63 := hbl b (List.mem_of_getElem? hb)
    simp only [hb, hr, Option.map_some, Option.getD_some]
    rw [hps] at HHd
    have hpI : (p : Int) < (M.bs.length : Int) := by omega
    have hpR : (p : Int) < (M.rt.length : Int) := by omega
    have hpn : ((p : Int) == -1) = false := beq_eq_false_iff_ne.2 (by omega)
    clear h hbl hrl hps hct hcr hb hr
    go_enter Tryz.func141, Tryz.ntmps141
    go_wp2_with fail
    have hB0 := fun o => (Below.refl w.heap.size w).alloc (Nat.le_refl _) o
    go_cut [5] (fun s5 wx => s5 = .int .i64 (p : Int) ∧ Below w.heap.size w wx)
    case first =>
      go_region_with ((go_at_call 143; refine (HHd.out _ (by first | exact hB0 _ | exact (hB0 _).drew)).mono ?_; rintro e w2 ⟨rfl, hb2⟩))
      all_goals
        go_wp2_with fail
        go_meet
        refine ⟨rfl, (hB0 _).drew.trans (hb2.mono (by simp))⟩
    case rest =>
    obtain ⟨rfl, hb⟩ := hcut
    generalize hwc : wc = X at *
    have x0 : X.cell? ⟨g, 0, none⟩ = _ := (hb.cell (p := ⟨g, 0, none⟩) hgl).trans c0
    have x16 : X.cell? ⟨g, 16, none⟩ = _ := (hb.cell (p := ⟨g, 16, none⟩) hgl).trans c16
    have x17 : X.cell? ⟨g, 17, none⟩ = _ := (hb.cell (p := ⟨g, 17, none⟩) hgl).trans c17
    have xt : X.cell? ⟨gt, p * 6 + 3, none⟩ = _ := (hb.cell (p := ⟨gt, p * 6 + 3, none⟩) hgt).trans t3
    have xr : X.cell? ⟨gr, p * 2, none⟩ = _ := (hb.cell (p := ⟨gr, p * 2, none⟩) hgr).trans r0
    have Hb := hide hb
    clear hb hwc c0 c16 c17 t3 r0
    by_cases hn : M.now < r.fr
    · go_wp2_with fail
      go_quiet (fail)
      go_wp2_with fail
      go_ret
      exact ⟨rfl, below_drewN Hb.out _⟩
    · go_wp2_with fail
      go_quiet (fail)
      go_wp2_with fail
      go_ret
      exact ⟨rfl, below_drewN Hb.out _⟩
end Go.Proofs.YtojpjaifhjigfaaGreatDoor

/- Whose turn it is: hasAny, allows, pass, pick. -/
namespace Go.Proofs.YtojpjaifhjigfaaGreatDoor
open Go.RowKit Go.Maps

/-- A row of numbers that is nobody's. -/
def NumsAt (w : World) (L : Labs) (who g : Nat) (l : List Int) : Prop := Blk w g (intsI l).toArray 3 ∧ ¬ ofP who (L g)
theorem NumsAt.cell {w : World} {L : Labs} {who g : Nat} {l : List Int} (h : NumsAt w L who g l) {i : Nat} (hi : i < l.length) : w.cell? ⟨g, i, none⟩ = some (.int .i64 (l.getD i 0)) := by
  rw [h.1.cell]
  simp [intsI, List.getD_eq_getElem?_getD, hi]
theorem NumsAt.keep {w w' : World} {L L' : Labs} {who g : Nat} {l : List Int} (h : NumsAt w L who g l) (s : Step (ofP who) L w L' w') : NumsAt w' L' who g l := by
  refine ⟨?_, by rw [s.lab g h.1.lt]; exact h.2⟩
  unfold Blk
  rw [s.block g h.1.lt h.2]
  exact h.1
def sizesI (l : List Nat) : List Int := l.map fun n : Nat => (n : Int)
theorem sizesI_getD (l : List Nat) (i : Nat) : (sizesI l).getD i 0 = (l.getD i 0 : Nat) := by
  simp only [sizesI, List.getD_eq_getElem?_getD, List.getElem?_map]
  cases l[i]? <;> simp

set_option maxRecDepth 100000 in
set_option maxHeartbeats 1000000 in
theorem hasAny_any (L : Labs) (who g : Nat) (l : List Nat) (w : World) (h : NumsAt w L who g (sizesI l)) (hl : l.length ≤ 8) : Calls Tryz.prog 158 #[.slice (some ⟨g, 0, none⟩) l.length l.length] w fun e w' => e = .returned (.bool (!l.all (· == 0))) ∧ w' = w := by
  have HC : Hid (∀ i, i < l.length → w.cell? ⟨g, i, none⟩ = some (.int .i64 (l.getD i 0 : Nat))) := fun i hi => by
    rw [h.cell (by simpa [sizesI] using hi), sizesI_getD]
  have hlt := h.1.lt
  clear h
  generalize hn : l.length = n at *
  have Hn := hide hn
  clear hn
  go_enter Tryz.func158, Tryz.ntmps158
  go_wp2_with fail
  go_loop [7] (fun i => ∃ k : Nat, k ≤ n ∧ i = .int .i64 k ∧ (∀ j, j < k → l.getD j 0 = 0)) (fun i => n - (intOf i).toNat)
  case atStart => exact ⟨0, Nat.zero_le _, rfl, fun j hj => by omega⟩
  case round =>
    obtain ⟨k, hk, rfl, hno⟩ := hrel
    have Hno := hide hno
    clear hno
    by_cases hlt : k < n
    · have hltI : (k : Int) < (n : Int) := by omega
      have e1 := HC.out k hlt
      generalize hx : l.getD k 0 = x at *
      have Hx := hide hx
      clear hx
      by_cases h0 : x = 0
      · have H0 := hide h0
        subst h0
        go_wp2_with fail
        go_round
        case rel =>
          refine ⟨k + 1, by omega, by go_num, fun j hj => ?_⟩
          rcases Nat.lt_succ_iff_lt_or_eq.1 hj with h1 | h1
          · exact Hno.out j h1
          · rw [h1]; exact Hx.out
        case measure => simp [intOf]; omega
      · have hpos : 0 < (x : Int) := by omega
        go_wp2_with fail
        go_ret
        refine ⟨ret_bool ?_, rfl⟩
        cases ha : l.all (· == 0) with
        | false => rfl
        | true =>
          exfalso
          have hkl : k < l.length := by rw [Hn.out]; exact hlt
          have := List.all_eq_true.1 ha l[k] (List.getElem_mem hkl)
          have e := Hx.out
          rw [List.getD_eq_getElem?_getD, List.getElem?_eq_getElem hkl] at e
          simp at this e
          omega
    · go_wp2_with fail
      go_ret
      refine ⟨ret_bool ?_, rfl⟩
      have : l.all (· == 0) = true := by
        rw [List.all_eq_true]
        intro a ha
        obtain ⟨j, hj, rfl⟩ := List.getElem_of_mem ha
        have := Hno.out j (by rw [Hn.out] at hj; omega)
        rw [List.getD_eq_getElem?_getD, List.getElem?_eq_getElem hj] at this
        simpa using this
      rw [this]; rfl

/-- A destination's cells, and its credits. -/
theorem OutF.full {w : World} {L : Labs} {who th go k d : Nat} {os : List Out} {o : Out} (h : OutF w L who th go k os d o) (hn : 0 < o.cr.length) : ∃ g gc ck, OutCells w L who th go d o g (some ⟨gc, 0, none⟩) ck ∧ gc ≠ go ∧ gc < w.heap.size ∧ (∀ i, i < o.cr.length → w.cell? ⟨gc, i, none⟩ = some (.int .i64 (o.cr.getD i 0))) ∧ ∀ i, w.frozen? ⟨gc, i, none⟩ = false := by
  obtain ⟨g, ca, ck, hC⟩ := h.cells
  obtain ⟨gc, rfl, hlt, hlab, hcell, hfz⟩ := hC.cr.head hn
  refine ⟨g, gc, ck, hC, fun e => ?_, hlt, fun i hi => ?_, hfz⟩
  · subst e
    rw [hC.lab] at hlab
    simp at hlab
  · exact hcell i _ (by simp [intsI, List.getD_eq_getElem?_getD, hi])

/-- What turns may turn: a destination's cells, and its credits. -/
def rotP (who d : Nat) : Lab → Prop := fun l => l = some (who, .ol) ∨ l = some (who, .cr d)

set_option maxRecDepth 100000 in
set_option maxHeartbeats 1000000 in
theorem allows_any (L : Labs) (who th go k d : Nat) (os : List Out) (o : Out) (size : Nat) (w : World) (h : OutF w L who th go k os d o) (ht : o.turn < o.cr.length) (hl : o.cr.length ≤ 8) :
    Calls Tryz.prog 159 #[.pointer (some ⟨go, d * 10 + 5, none⟩), .int .i64 size] w fun e w' => e = .returned (.bool (decide (0 < size) && decide ((size : Int) ≤ o.cr.getD o.turn 0))) ∧ ∃ n, w' = w.drewN n := by
  obtain ⟨g, gc, ck, hC, hne, hgc, hcell, hfz⟩ := h.full (by omega)
  have c5 : w.cell? ⟨go, d * 10 + 5, none⟩ = some (.int .i64 o.turn) := hC.c5
  have c6 : w.cell? ⟨go, d * 10 + 5 + 1, none⟩ = some (.slice (some ⟨gc, 0, none⟩) o.cr.length ck) := hC.c6
  have e1 := hcell o.turn ht
  have htI : (o.turn : Int) < (o.cr.length : Int) := by omega
  clear hC hcell hfz h
  generalize o.cr.getD o.turn 0 = x at *
  generalize o.cr.length = n at *
  generalize o.turn = t at *
  by_cases h0 : 0 < size
  · have hd : decide (0 < (size : Int)) = true := by simp; omega
    have hd' : decide (0 < size) = true := by simp; omega
    go_enter Tryz.func159, Tryz.ntmps159
    go_wp2_with fail
    go_quiet (fail)
    go_wp2_with fail
    go_ret
    exact ⟨ret_bool (by simp [h0]), _, rfl⟩
  · obtain rfl : size = 0 := by omega
    go_enter Tryz.func159, Tryz.ntmps159
    go_wp2_with fail
    go_quiet (fail)
    go_wp2_with fail
    go_ret
    exact ⟨ret_bool (by simp), _, rfl⟩
end Go.Proofs.YtojpjaifhjigfaaGreatDoor

/- pass: the turn goes on. -/
namespace Go.Proofs.YtojpjaifhjigfaaGreatDoor
open Go.RowKit Go.Maps

/-- A destination whose turn is t now, its credit greater by the quantum. -/
def Turns.Out3 (o : Out) (t : Nat) (quanta : List Int) : Out := { o with turn := t, cr := o.cr.set t (o.cr.getD t 0 + quanta.getD t 0) }

set_option maxRecDepth 100000 in
set_option maxHeartbeats 2000000 in
theorem pass_any (L : Labs) (who th go k d gq : Nat) (os : List Out) (o : Out) (sizes : List Nat) (quanta : List Int) (w : World) (h : OutF w L who th go k os d o) (hr : Rot o.cr.length (o.turn, o.cr)) (hl : o.cr.length ≤ 8) (hz : ∀ i, sizes.getD i 0 ≤ 64)
    (hq : NumsAt w L who gq quanta) (hql : quanta.length = o.cr.length) (hqb : ∀ i, i < o.cr.length → 64 ≤ quanta.getD i 0 ∧ quanta.getD i 0 ≤ 1000) :
    Calls Tryz.prog 160 #[.pointer (some ⟨go, d * 10 + 5, none⟩), .int .i64 (sizes.getD o.turn 0 : Nat), .slice (some ⟨gq, 0, none⟩) o.cr.length o.cr.length] w fun e w' => e = .returned (.tuple #[]) ∧
      OutF w' L who th go k os d { o with turn := (passR sizes quanta (o.turn, o.cr)).1, cr := (passR sizes quanta (o.turn, o.cr)).2 } ∧ Step (rotP who d) L w L w' := by
  have ht : o.turn < o.cr.length := hr.turn
  obtain ⟨g, gc, ck, hC, hne, hgc, hcell, hfz⟩ := h.full (by omega)
  have c5 : w.cell? ⟨go, d * 10 + 5, none⟩ = some (.int .i64 o.turn) := hC.c5
  have c6 : w.cell? ⟨go, d * 10 + 5 + 1, none⟩ = some (.slice (some ⟨gc, 0, none⟩) o.cr.length ck) := hC.c6
  have e1 := hcell o.turn ht
  have f1 := hfz o.turn
  have HU := hide (h.credit hC o.turn 0)
  have HF := hide h
  have HQ := hide hq
  have HR := hide hr
  have HZ := hide hz
  obtain ⟨n, hn⟩ : ∃ n, o.cr.length = n := ⟨_, rfl⟩
  obtain ⟨t, htt⟩ : ∃ t, o.turn = t := ⟨_, rfl⟩
  obtain ⟨z, hzz⟩ : ∃ z, sizes.getD o.turn 0 = z := ⟨_, rfl⟩
  obtain ⟨o1, ho1⟩ : ∃ o1 : Out, o1 = { o with cr := if z = 0 then o.cr.set o.turn 0 else o.cr } := ⟨_, rfl⟩
  have HT1 : Hid (o1.turn = t) := by rw [ho1]; exact htt
  have HL1 : Hid (o1.cr.length = n) := by rw [ho1]; show (if z = 0 then o.cr.set o.turn 0 else o.cr).length = n; split <;> simp [hn]
  have HQl : Hid (quanta.length = n) := hql.trans hn
  have HQb : Hid (∀ i, i < n → 64 ≤ quanta.getD i 0 ∧ quanta.getD i 0 ≤ 1000) := by rw [← hn]; exact hqb
  have HB1 : Hid (∀ i, i < n → 0 ≤ o1.cr.getD i 0 ∧ o1.cr.getD i 0 ≤ 1063) := fun i hi => by
    rw [ho1]
    show 0 ≤ (if z = 0 then o.cr.set o.turn 0 else o.cr).getD i 0 ∧ (if z = 0 then o.cr.set o.turn 0 else o.cr).getD i 0 ≤ 1063
    have hi' : i < o.cr.length := by omega
    have q0 : 0 ≤ o.cr.getD i 0 := hr.pos i hi'
    have q1 : o.cr.getD i 0 ≤ 1063 := by
      by_cases e : i = o.turn
      · subst e; exact hr.top
      · have : o.cr.getD i 0 ≤ 63 := hr.low i hi' e
        omega
    split
    · rw [getD_set ht]; split <;> omega
    · exact ⟨q0, q1⟩
  have HE1 : Hid (Turns.Out3 o1 ((t + 1) % n) quanta = { o with turn := (passR sizes quanta (o.turn, o.cr)).1, cr := (passR sizes quanta (o.turn, o.cr)).2 }) := by
    rw [ho1]
    simp only [Turns.Out3, passR, hn, htt]
    rw [← htt, hzz]
    rfl
  have Ho1 := hide ho1
  rw [hzz, hn]
  rw [htt] at c5 e1 f1 ht
  rw [hn] at c6 ht hl
  have htI0 : (t : Int) < (n : Int) := by omega
  clear hC hcell hfz h hq hr hz hql hqb hn htt hzz ho1
  by_cases h0 : z = 0
  · have HS0 : Hid (OutF (w.setCell ⟨gc, t, none⟩ (.int .i64 0)) L who th go k os d o1 ∧ Step (rotP who d) L w L (w.setCell ⟨gc, t, none⟩ (.int .i64 0))) := by
      have e : o1 = { o with cr := o.cr.set o.turn 0 } := by rw [Ho1.out, if_pos h0]
      have h2 : o.turn = t := by have h1 := HT1.out; rw [Ho1.out] at h1; exact h1
      rw [e, ← h2]
      exact ⟨HU.out.1, HU.out.2.mono (fun l h => Or.inr h)⟩
    subst h0
    go_enter Tryz.func160, Tryz.ntmps160
    go_upto_region 1 with fail
    go_cut [] (fun wx => OutF wx L who th go k os d o1 ∧ Step (rotP who d) L w L wx)
    case first =>
      go_region
      all_goals
        go_wp2_with fail
        go_meet
        exact ⟨HS0.out.1.drew, HS0.out.2.trans (Step.drew L _)⟩
    case rest =>
    obtain ⟨hF1, hS1⟩ := hcut
    have HF1 := hide hF1
    have HS1 := hide hS1
    generalize hwc : wc = WX at *
    clear hwc hF1 hS1 c5 c6 e1 f1
    go_upto_region 2 with fail
    obtain ⟨g2, gc2, ck2, hC2, hne2, hgc2, hcell2, hfz2⟩ := HF1.out.full (by rw [HL1.out]; omega)
    have b5 : WX.cell? ⟨go, d * 10 + 5, none⟩ = some (.int .i64 (t : Nat)) := by have := hC2.c5; rw [HT1.out] at this; exact this
    have b6 : WX.cell? ⟨go, d * 10 + 5 + 1, none⟩ = some (.slice (some ⟨gc2, 0, none⟩) n ck2) := by have := hC2.c6; rw [HL1.out] at this; exact this
    have z5 := hC2.fz (d * 10 + 5)
    have HU2 : Hid (OutF (WX.setCell ⟨go, d * 10 + 5, none⟩ (.int .i64 ((t + 1) % n : Nat))) L who th go k os d { o1 with turn := (t + 1) % n } ∧ Step (rotP who d) L w L (WX.setCell ⟨go, d * 10 + 5, none⟩ (.int .i64 ((t + 1) % n : Nat)))) := by
      obtain ⟨a, s⟩ := HF1.out.put 5 (.int .i64 ((t + 1) % n : Nat)) { o1 with turn := (t + 1) % n } (by omega) rfl (fun _ _ => rfl)
      exact ⟨a, HS1.out.trans (s.mono (fun l h => Or.inl h))⟩
    clear hC2 hcell2 hfz2
    go_cut [] (fun wx => OutF wx L who th go k os d { o1 with turn := (t + 1) % n } ∧ Step (rotP who d) L w L wx)
    case first =>
      have E1 : Hid (((t : Int) + 1) % (n : Int) = ((t + 1) % n : Nat)) := by show _ = _; rw [Int.natCast_emod]; simp
      have hn0 : ¬ (n = 0) := by omega
      go_region
      all_goals
        go_wp2_with fail
        go_meet
        first
          | exact ⟨HU2.out.1.drew, HU2.out.2.trans (Step.drew L _)⟩
          | (rw [E1.out]; exact ⟨HU2.out.1.drew, HU2.out.2.trans (Step.drew L _)⟩)
    case rest =>
    obtain ⟨hF3, hS3⟩ := hcut
    have HF3 := hide hF3
    have HS3 := hide hS3
    have ht2 : (t + 1) % n < n := Nat.mod_lt _ (by omega)
    obtain ⟨g3, gc3, ck3, hC3, hne3, hgc3, hcell3, hfz3⟩ := hF3.full (by show 0 < o1.cr.length; rw [HL1.out]; omega)
    generalize hwc : wc = WY at *
    clear hwc hF3 hS3
    have d5 : WY.cell? ⟨go, d * 10 + 5, none⟩ = some (.int .i64 ((t + 1) % n : Nat)) := hC3.c5
    have d6 : WY.cell? ⟨go, d * 10 + 5 + 1, none⟩ = some (.slice (some ⟨gc3, 0, none⟩) n ck3) := by have : _ = some (Value.slice _ o1.cr.length _) := hC3.c6; rw [HL1.out] at this; exact this
    have dc : WY.cell? ⟨gc3, (t + 1) % n, none⟩ = some (.int .i64 (o1.cr.getD ((t + 1) % n) 0)) := hcell3 _ (by show _ < o1.cr.length; rw [HL1.out]; exact ht2)
    have zc := hfz3 ((t + 1) % n)
    have dq : WY.cell? ⟨gq, (t + 1) % n, none⟩ = some (.int .i64 (quanta.getD ((t + 1) % n) 0)) := (HQ.out.keep (HS3.out.mono (fun l h => by rcases h with rfl | rfl <;> exact ⟨_, rfl⟩))).cell (by rw [HQl.out]; exact ht2)
    have HU4 := hide (HF3.out.credit hC3 ((t + 1) % n) (o1.cr.getD ((t + 1) % n) 0 + quanta.getD ((t + 1) % n) 0))
    have hxx := HB1.out _ ht2
    have hqq := HQb.out _ ht2
    clear hC3 hcell3 hfz3 b5 b6 z5 hgc2 hne2
    have HEnd : Hid (Turns.Out3 o1 ((t + 1) % n) quanta = { o with turn := (passR sizes quanta (o.turn, o.cr)).1, cr := (passR sizes quanta (o.turn, o.cr)).2 }) := HE1.out
    generalize hx : o1.cr.getD ((t + 1) % n) 0 = x at *
    generalize hq : quanta.getD ((t + 1) % n) 0 = q at *
    generalize ht' : (t + 1) % n = t' at *
    have Hxq := hide (And.intro hx hq)
    clear hx hq ht'
    have htI : (t' : Int) < (n : Int) := by omega
    go_wp2_with fail
    go_region
    all_goals
      go_wp2_with fail
      first | go_end0 | refine bodyPost_ret (results_none rfl _ _ _) rfl ?_
      refine ⟨rfl, ?_, HS3.out.trans ((HU4.out.2.mono (fun l h => Or.inr h)).trans (Step.drew L _))⟩
      have := HU4.out.1.drew
      rw [← HEnd.out, Turns.Out3, Hxq.out.1, Hxq.out.2]
      exact this
  · have h0' : ¬ ((z : Int) = 0) := by omega
    have HF1 : Hid (OutF w L who th go k os d o1) := by
      rw [Ho1.out, if_neg h0]
      exact HF.out
    have HS1 : Hid (Step (rotP who d) L w L w) := Step.refl _ _ _
    go_enter Tryz.func160, Tryz.ntmps160
    clear c5 c6 e1 f1
    go_upto_region 2 with fail
    obtain ⟨g2, gc2, ck2, hC2, hne2, hgc2, hcell2, hfz2⟩ := HF1.out.full (by rw [HL1.out]; omega)
    have b5 : w.cell? ⟨go, d * 10 + 5, none⟩ = some (.int .i64 (t : Nat)) := by have := hC2.c5; rw [HT1.out] at this; exact this
    have b6 : w.cell? ⟨go, d * 10 + 5 + 1, none⟩ = some (.slice (some ⟨gc2, 0, none⟩) n ck2) := by have := hC2.c6; rw [HL1.out] at this; exact this
    have z5 := hC2.fz (d * 10 + 5)
    have HU2 : Hid (OutF (w.setCell ⟨go, d * 10 + 5, none⟩ (.int .i64 ((t + 1) % n : Nat))) L who th go k os d { o1 with turn := (t + 1) % n } ∧ Step (rotP who d) L w L (w.setCell ⟨go, d * 10 + 5, none⟩ (.int .i64 ((t + 1) % n : Nat)))) := by
      obtain ⟨a, s⟩ := HF1.out.put 5 (.int .i64 ((t + 1) % n : Nat)) { o1 with turn := (t + 1) % n } (by omega) rfl (fun _ _ => rfl)
      exact ⟨a, HS1.out.trans (s.mono (fun l h => Or.inl h))⟩
    clear hC2 hcell2 hfz2
    go_cut [] (fun wx => OutF wx L who th go k os d { o1 with turn := (t + 1) % n } ∧ Step (rotP who d) L w L wx)
    case first =>
      have E1 : Hid (((t : Int) + 1) % (n : Int) = ((t + 1) % n : Nat)) := by show _ = _; rw [Int.natCast_emod]; simp
      have hn0 : ¬ (n = 0) := by omega
      go_region
      all_goals
        go_wp2_with fail
        go_meet
        first
          | exact ⟨HU2.out.1.drew, HU2.out.2.trans (Step.drew L _)⟩
          | (rw [E1.out]; exact ⟨HU2.out.1.drew, HU2.out.2.trans (Step.drew L _)⟩)
    case rest =>
    obtain ⟨hF3, hS3⟩ := hcut
    have HF3 := hide hF3
    have HS3 := hide hS3
    have ht2 : (t + 1) % n < n := Nat.mod_lt _ (by omega)
    obtain ⟨g3, gc3, ck3, hC3, hne3, hgc3, hcell3, hfz3⟩ := hF3.full (by show 0 < o1.cr.length; rw [HL1.out]; omega)
    generalize hwc : wc = WY at *
    clear hwc hF3 hS3
    have d5 : WY.cell? ⟨go, d * 10 + 5, none⟩ = some (.int .i64 ((t + 1) % n : Nat)) := hC3.c5
    have d6 : WY.cell? ⟨go, d * 10 + 5 + 1, none⟩ = some (.slice (some ⟨gc3, 0, none⟩) n ck3) := by have : _ = some (Value.slice _ o1.cr.length _) := hC3.c6; rw [HL1.out] at this; exact this
    have dc : WY.cell? ⟨gc3, (t + 1) % n, none⟩ = some (.int .i64 (o1.cr.getD ((t + 1) % n) 0)) := hcell3 _ (by show _ < o1.cr.length; rw [HL1.out]; exact ht2)
    have zc := hfz3 ((t + 1) % n)
    have dq : WY.cell? ⟨gq, (t + 1) % n, none⟩ = some (.int .i64 (quanta.getD ((t + 1) % n) 0)) := (HQ.out.keep (HS3.out.mono (fun l h => by rcases h with rfl | rfl <;> exact ⟨_, rfl⟩))).cell (by rw [HQl.out]; exact ht2)
    have HU4 := hide (HF3.out.credit hC3 ((t + 1) % n) (o1.cr.getD ((t + 1) % n) 0 + quanta.getD ((t + 1) % n) 0))
    have hxx := HB1.out _ ht2
    have hqq := HQb.out _ ht2
    clear hC3 hcell3 hfz3 b5 b6 z5 hgc2 hne2
    have HEnd : Hid (Turns.Out3 o1 ((t + 1) % n) quanta = { o with turn := (passR sizes quanta (o.turn, o.cr)).1, cr := (passR sizes quanta (o.turn, o.cr)).2 }) := HE1.out
    generalize hx : o1.cr.getD ((t + 1) % n) 0 = x at *
    generalize hq : quanta.getD ((t + 1) % n) 0 = q at *
    generalize ht' : (t + 1) % n = t' at *
    have Hxq := hide (And.intro hx hq)
    clear hx hq ht'
    have htI : (t' : Int) < (n : Int) := by omega
    go_wp2_with fail
    go_region
    all_goals
      go_wp2_with fail
      first | go_end0 | refine bodyPost_ret (results_none rfl _ _ _) rfl ?_
      refine ⟨rfl, ?_, HS3.out.trans ((HU4.out.2.mono (fun l h => Or.inr h)).trans (Step.drew L _))⟩
      have := HU4.out.1.drew
      rw [← HEnd.out, Turns.Out3, Hxq.out.1, Hxq.out.2]
      exact this
end Go.Proofs.YtojpjaifhjigfaaGreatDoor

/- pick: who goes now. -/
namespace Go.Proofs.YtojpjaifhjigfaaGreatDoor
open Go.RowKit Go.Maps

theorem NumsAt.drewN {w : World} {L : Labs} {who g : Nat} {l : List Int} (h : NumsAt w L who g l) (n : Nat) : NumsAt (w.drewN n) L who g l := ⟨h.1.drewN n, h.2⟩

/-- What pick leaves. -/
def Picked (w : World) (L : Labs) (who th go k : Nat) (os : List Out) (d : Nat) (o : Out) (e : Ending) (w' : World) : Prop := e = .returned (.int .i64 o.turn) ∧ OutF w' L who th go k os d o ∧ Step (rotP who d) L w L w'

set_option maxRecDepth 100000 in
set_option maxHeartbeats 2000000 in
theorem pick_none (L : Labs) (who go d gs gq n : Nat) (sizes : List Nat) (w : World) (hs : NumsAt w L who gs (sizesI sizes)) (hsl : sizes.length = n) (hn : n ≤ 8) (ha : sizes.all (· == 0) = true) :
    Calls Tryz.prog 142 #[.pointer (some ⟨go, d * 10 + 5, none⟩), .slice (some ⟨gs, 0, none⟩) n n, .slice (some ⟨gq, 0, none⟩) n n] w fun e w' => e = .returned (.int .i64 (-1)) ∧ w' = w := by
  have H := hide (hasAny_any L who gs sizes w hs (by omega))
  rw [hsl, ha] at H
  clear hs ha
  go_enter Tryz.func142, Tryz.ntmps142
  go_wp2_with fail
  refine H.out.mono ?_
  rintro e w1 ⟨rfl, rfl⟩
  go_wp2_with fail
  go_ret
  exact ⟨rfl, rfl⟩

set_option maxRecDepth 100000 in
set_option maxHeartbeats 2000000 in
theorem pick_some (L : Labs) (who th go k d gs gq n : Nat) (os : List Out) (o : Out) (sizes : List Nat) (quanta : List Int) (w : World) (h : OutF w L who th go k os d o) (hr : Rot n (o.turn, o.cr)) (hl : n ≤ 8) (hz : ∀ i, sizes.getD i 0 ≤ 64)
    (hs : NumsAt w L who gs (sizesI sizes)) (hsl : sizes.length = n) (hq : NumsAt w L who gq quanta) (hql : quanta.length = n) (hqb : ∀ i, i < n → 64 ≤ quanta.getD i 0 ∧ quanta.getD i 0 ≤ 1000) (ha : sizes.all (· == 0) = false) :
    Calls Tryz.prog 142 #[.pointer (some ⟨go, d * 10 + 5, none⟩), .slice (some ⟨gs, 0, none⟩) n n, .slice (some ⟨gq, 0, none⟩) n n] w fun e w' => Picked w L who th go k os d (o.picked sizes quanta) e w' := by
  have hcn : o.cr.length = n := hr.len
  have H := hide (hasAny_any L who gs sizes w hs (by omega))
  rw [hsl, ha] at H
  obtain ⟨fin, hfin⟩ : ∃ fin, fin = turnsR sizes quanta n (o.turn, o.cr) := ⟨_, rfl⟩
  have HFound : Hid (allowsR sizes fin.1 fin.2 = true) := by
    obtain ⟨x, hx, hx0⟩ : ∃ x ∈ sizes, (x == 0) = false := by
      have := List.all_eq_false.1 ha
      obtain ⟨x, hx, hx0⟩ := this
      exact ⟨x, hx, by simpa using hx0⟩
    obtain ⟨i, hi, rfl⟩ := List.getElem_of_mem hx
    rw [hfin]
    refine turnsR_found hz hqb hr (i := i) (by omega) ?_
    rw [List.getD_eq_getElem?_getD, List.getElem?_eq_getElem hi]
    simp at hx0 ⊢
    omega
  have HEnd : Hid (o.picked sizes quanta = { o with turn := fin.1, cr := fin.2.set fin.1 (fin.2.getD fin.1 0 - sizes.getD fin.1 0) }) := by
    rw [hfin]
    show Out.picked o sizes quanta = _
    simp only [Out.picked, hcn]
  have HAt : Hid (∃ t cr, Rot n (t, cr) ∧ turnsR sizes quanta n (t, cr) = fin ∧ OutF w L who th go k os d { o with turn := t, cr := cr } ∧ Step (rotP who d) L w L w) := ⟨o.turn, o.cr, hr, hfin.symm, h, Step.refl _ _ _⟩
  have HS := hide hs
  have HQ := hide hq
  have HZ := hide hz
  have Hqb := hide hqb
  have HSl := hide hsl
  have HQl := hide hql
  have h0 : 0 < n := by have : o.turn < n := hr.turn; omega
  clear h hr hs hq hz hqb ha hfin hcn hsl hql
  go_enter Tryz.func142, Tryz.ntmps142
  go_wp2_with fail
  refine H.out.mono ?_
  rintro e w1 ⟨rfl, hw1⟩
  subst hw1
  clear H
  go_wp2_with fail
  go_loopg [] n (fun m wr => ∃ t cr, Rot n (t, cr) ∧ turnsR sizes quanta m (t, cr) = fin ∧ OutF wr L who th go k os d { o with turn := t, cr := cr } ∧ Step (rotP who d) L w1 L wr)
  case atStart => exact HAt.out
  case round =>
    obtain ⟨t, cr, hR, hT, hF, hSt⟩ := hrel
    have HR := hide hR
    have HT := hide hT
    have HF := hide hF
    have HSt := hide hSt
    have ht : t < n := hR.turn
    have hcl : cr.length = n := hR.len
    have Hcl := hide hcl
    have hSt2 : Step (ofP who) L w1 L wr := hSt.mono (fun l h => by rcases h with rfl | rfl <;> exact ⟨_, rfl⟩)
    have HSw := hide (HS.out.keep hSt2)
    have HQw := hide (HQ.out.keep hSt2)
    have e1 : wr.cell? ⟨gs, t, none⟩ = some (.int .i64 (sizes.getD t 0 : Nat)) := by
      rw [HSw.out.cell (by simp [sizesI, HSl.out]; exact ht), sizesI_getD]
    obtain ⟨g, gc, ck, hC, hne, hgc, hcell, hfz⟩ := hF.full (by show 0 < cr.length; omega)
    have c5 : wr.cell? ⟨go, d * 10 + 5, none⟩ = some (.int .i64 (t : Nat)) := hC.c5
    have c6 : wr.cell? ⟨go, d * 10 + 5 + 1, none⟩ = some (.slice (some ⟨gc, 0, none⟩) n ck) := by have : _ = some (Value.slice _ cr.length _) := hC.c6; rw [hcl] at this; exact this
    have ec : wr.cell? ⟨gc, t, none⟩ = some (.int .i64 (cr.getD t 0)) := hcell t (by show t < cr.length; omega)
    have zc := hfz t
    have htI : (t : Int) < (n : Int) := by omega
    have HAl := hide (fun w2 h2 => allows_any L who th go k d os { o with turn := t, cr := cr } (sizes.getD t 0) w2 h2 (by show t < cr.length; omega) (by show cr.length ≤ 8; omega))
    have hz64 := HZ.out t
    have hcp : 0 ≤ cr.getD t 0 := hR.pos t ht
    have hct : cr.getD t 0 ≤ 1063 := hR.top
    have HCr := hide (hF.credit hC t (cr.getD t 0 - (sizes.getD t 0 : Nat)))
    clear hR hT hF hSt hSt2 hC hcell hfz hcl
    by_cases hal : allowsR sizes t cr = true
    · have hfe : fin = (t, cr) := by rw [← HT.out, turnsR_allows (s := (t, cr)) hal]
      have HEx : Hid (o.picked sizes quanta = { o with turn := t, cr := cr.set t (cr.getD t 0 - sizes.getD t 0) }) := by
        show _ = _
        rw [HEnd.out, hfe]
      have hal' : (decide (0 < sizes.getD t 0) && decide ((sizes.getD t 0 : Int) ≤ cr.getD t 0)) = true := hal
      rw [hal'] at HAl
      clear hal hal' hfe
      generalize hzz : sizes.getD t 0 = z at *
      generalize hxx : cr.getD t 0 = x at *
      clear hzz hxx
      go_wp2_with fail
      refine (HAl.out _ HF.out).mono ?_
      rintro e w2 ⟨rfl, nq, rfl⟩
      go_wp2_with fail
      go_region
      all_goals
        go_wp2_with fail
        go_ret
        rw [HEx.out]
        refine ⟨rfl, ?_, HSt.out.trans ((HCr.out.2.mono (fun l h => Or.inr h)).trans (Step.drewN L _ (nq + 1)))⟩
        exact HCr.out.1.drewN (nq + 1)
    · have hal' : (decide (0 < sizes.getD t 0) && decide ((sizes.getD t 0 : Int) ≤ cr.getD t 0)) = false := by simpa [allowsR] using hal
      have Hal : Hid (allowsR sizes t cr = false) := by show _ = _; simpa using hal
      rw [hal'] at HAl
      have HPs := hide (fun w2 h2 q2 => pass_any L who th go k d gq os { o with turn := t, cr := cr } sizes quanta w2 h2 (by show Rot cr.length (t, cr); rw [Hcl.out]; exact HR.out) (by show cr.length ≤ 8; rw [Hcl.out]; exact hl) HZ.out q2 (by show quanta.length = cr.length; rw [Hcl.out]; exact HQl.out) (by show ∀ i, i < cr.length → _; rw [Hcl.out]; exact Hqb.out))
      simp only [Hcl.out] at HPs
      clear hal hal' HCr
      generalize hzz : sizes.getD t 0 = z at *
      have Hzz := hide hzz
      clear hzz
      go_wp2_with fail
      refine (HAl.out _ HF.out).mono ?_
      rintro e w2 ⟨rfl, nq, rfl⟩
      go_wp2_with fail
      refine (HPs.out _ (HF.out.drewN nq) (HQw.out.drewN nq)).mono ?_
      rintro e w3 ⟨rfl, hF3, hS3⟩
      have HF3 := hide hF3
      have HS3 := hide hS3
      clear hF3 hS3
      go_wp2_with fail
      have hgk : 0 < gk := by
        rcases Nat.eq_zero_or_pos gk with e | e
        · exfalso
          subst e
          have e1 := HT.out
          simp only [turnsR] at e1
          have := HFound.out
          rw [← e1] at this
          have h2 := Hal.out
          simp only at this
          rw [this] at h2
          cases h2
        · exact e
      go_roundg (gk - 1)
      case measure => omega
      case rel =>
        have hp := (HR.out.pass HZ.out Hqb.out Hal.out).1
        refine ⟨(passR sizes quanta (t, cr)).1, (passR sizes quanta (t, cr)).2, hp, ?_, HF3.out, HSt.out.trans ((Step.drewN L wr nq).trans HS3.out)⟩
        have e1 := HT.out
        rw [show gk = gk - 1 + 1 by omega] at e1
        unfold turnsR at e1
        rw [Hal.out] at e1
        simpa using e1
end Go.Proofs.YtojpjaifhjigfaaGreatDoor
