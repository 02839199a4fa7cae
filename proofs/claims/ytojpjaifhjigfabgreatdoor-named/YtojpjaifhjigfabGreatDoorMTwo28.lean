/- Steps of the proof (several texts in one): RunPlayedQ, Again1, RunLive. -/
import Derived.Test.YtojpjaifhjigfabGreatDoorMTwo27
import Derived.Test.YtojpjaifhjigfabGreatDoorMTwo24

/- conduitkeep's run: an agent with a script behind it, its agent told. -/
namespace Go.Proofs.YtojpjaifhjigfabGreatDoor
open Go.RowKit Go.Maps
attribute [local go_sem] run_store_float

def beginP (zs : List Int) (N : Nat) : Ag × Nat := (((((Ag.new (madeC zs) (DT (madeT zs N)) (kn.take N)).submitted (rbat 0 0 0 5)).ticked 0 0).1.replied 0 true 0), 1)
def playedP (zs : List Int) (N : Nat) (ss : List St) : Ag × Nat := ss.foldl (stepP zs N) (beginP zs N)
theorem playedP_succ {zs : List Int} {N : Nat} {ss : List St} {k : Nat} {s : St} (h : ss[k]? = some s) : playedP zs N (ss.take (k + 1)) = stepP zs N (playedP zs N (ss.take k)) s := by
  unfold playedP
  rw [List.take_add_one, h, List.foldl_append]
  rfl
theorem infoStep2 : (Tryz.prog.info? 57).map (·.size) = some 5 := by kernel_rfl

set_option maxRecDepth 100000 in
set_option maxHeartbeats 8000000 in
theorem kbegin_q (A : Nat → Addr) (la : Option Addr) (cap : Nat) (zs : List Int) (N : Nat) (hN : N = 1 + pickN (zs.getD 9 0) 4) (w : World) (hS : Sents.Holds w 197 gl 11 A) (hr : ∀ z ∈ zs, InR z) (h : IntsAt w la zs) :
    Calls Tryz.prog 13 #[.slice la zs.length cap] w fun e w' => ∃ gr, e = .returned (.pointer (some ⟨gr, 0, none⟩)) ∧ RunQ w zs N 3 gr (beginP zs N) w' := by
  have HMade := hide (made_any la cap zs w hr h)
  have HS := hide hS
  have hN1 : 1 ≤ N := by omega
  have hN4 : N ≤ 4 := by have := pickN_lt (zs.getD 9 0) (n := 4) (by omega); omega
  rw [← hN] at HMade
  have HN := hide hN
  have hcfg := Cfg.ok (made_good zs).1
  obtain ⟨dn, hdn⟩ : ∃ dn : Nat, (madeC zs).d = dn := ⟨(madeC zs).d.toNat, by have := hcfg.d; omega⟩
  have hdn1 : 1 ≤ dn := by have := hcfg.d; omega
  have hdn4 : dn ≤ 4 := by have := hcfg.d; omega
  have Hdn := hide hdn
  obtain ⟨i1, hi1, hy0, hy1, hy2⟩ := info_parts infoWay3
  generalize zs.length = nz at *
  clear h hr hS hN hcfg hdn
  go_enter Tryz.func13, Tryz.ntmps13
  go_wp2_with fail
  refine HMade.out.mono ?_
  rintro e w1 ⟨b, rfl, hb, ⟨n, hn, hM⟩, hB1⟩
  have HM := hide hM
  have HB1 := hide hB1
  clear hM hB1
  go_wp2_with fail
  generalize hW : World.alloc w1 _ = W
  have hC : Blk W w1.heap.size ((madeC zs).cells (some b)) 30 := by rw [← hW]; exact Blk.new w1 _ _
  have hBW : Below w.heap.size w W := by rw [← hW]; exact HB1.out.alloc HB1.out.size _
  have hMW : OM W b n (DT (madeT zs N)) := by rw [← hW]; exact HM.out.alloc _
  have HO := hide (ropen0 zs b n N HN.out W hn hMW)
  have HC := hide hC
  have HMW := hide hMW
  have HBW := hide hBW
  clear hW hC hBW hMW HM HB1
  generalize w1.heap.size = gc at *
  refine HO.out.mono ?_
  rintro e w2 ⟨g, L, ns, rfl, hp, hns, hA, hB2, hL2, hL3⟩
  have hC2 : BlkAt w2 L none gc ((madeC zs).cells (some b)) 30 := ⟨HC.out.below hB2 HC.out.lt, hL2 gc HC.out.lt⟩
  have HRB : Hid (RB w w2 L b zs N) := ⟨⟨n, hn, om_below HMW.out hB2 HMW.out.lt, hL2 b HMW.out.lt⟩, fun k hk => hL2 k (Nat.lt_of_lt_of_le hk HBW.out.size), HBW.out.trans (hB2.mono HBW.out.size)⟩
  have e0 : w2.cell? ⟨gc, 0, none⟩ = some (.int .i64 (madeC zs).d) := hC2.1.cell 0
  have e1 : w2.cell? ⟨gc, 1, none⟩ = some (.map (some b)) := hC2.1.cell 1
  have e2 : w2.cell? ⟨gc, 2, none⟩ = some (.int .i64 (madeC zs).q) := hC2.1.cell 2
  have e3 : w2.cell? ⟨gc, 3, none⟩ = some (.int .i64 (madeC zs).at') := hC2.1.cell 3
  have e4 : w2.cell? ⟨gc, 4, none⟩ = some (.int .i64 (madeC zs).ba) := hC2.1.cell 4
  have e5 : w2.cell? ⟨gc, 5, none⟩ = some (.int .i64 (madeC zs).ca) := hC2.1.cell 5
  have e6 : w2.cell? ⟨gc, 6, none⟩ = some (.int .i64 (madeC zs).ti) := hC2.1.cell 6
  have e7 : w2.cell? ⟨gc, 7, none⟩ = some (.int .i64 (madeC zs).wi) := hC2.1.cell 7
  have e8 : w2.cell? ⟨gc, 8, none⟩ = some (.int .i64 (madeC zs).le) := hC2.1.cell 8
  have e9 : w2.cell? ⟨gc, 9, none⟩ = some (.float .f64 (madeC zs).th) := hC2.1.cell 9
  have e10 : w2.cell? ⟨gc, 10, none⟩ = some (.int .i64 (madeC zs).op) := hC2.1.cell 10
  have HC2 := hide hC2
  have Hp := hide hp
  have Hns := hide hns
  have HA := hide hA
  clear hp hns hA hB2 hL2 hL3 hC2 HO HC HMW HBW
  generalize hcc : madeC zs = cc at e0 e1 e2 e3 e4 e5 e6 e7 e8 e9 e10
  have Hcc := hide hcc
  clear hcc
  go_wp2_with fail
  generalize hW3 : World.alloc w2 _ = W3
  have hb3 : Below w2.heap.size w2 W3 := by rw [← hW3]; exact (Below.refl _ _).alloc (Nat.le_refl _) _
  have hG3 : Blk W3 w2.heap.size (runCells g b (madeC zs) (.slice none 0 0) (.slice none 0 0) (Rn.new 0)) 34 := by rw [← hW3, Hcc.out]; exact Blk.new w2 _ _
  have HBeg := hide (beg_new HA.out HRB.out HC2.out hb3 hG3)
  clear hW3 hb3 hG3 e0 e1 e2 e3 e4 e5 e6 e7 e8 e9 e10 HA HRB HC2 Hcc
  generalize w2.heap.size = gr at *
  go_loopw [7] (fun i wr => ∃ (k : Nat) (L : Labs), k ≤ dn ∧ i = .int .i64 k ∧ BegAt w wr L gr gc g b zs N k (Ag.new (madeC zs) (DT (madeT zs N)) ns)) (fun i _ => dn - (intOf i).toNat)
  case atStart => exact ⟨0, _, Nat.zero_le _, rfl, HBeg.out⟩
  case round =>
    clear HBeg
    obtain ⟨k, L, hk, rfl, hBg⟩ := hrel
    have c0 : wr.cell? ⟨gc, 0, none⟩ = some (.int .i64 dn) := by have := hBg.cf.1.cell 0; rw [← Hdn.out]; exact this
    by_cases hlt : k < dn
    · have hltI : (k : Int) < (dn : Int) := by omega
      obtain ⟨fv, wv, hP⟩ := hBg.run
      have hwl : (Rn.new k).ws.length = k := by simp [Rn.new]
      obtain ⟨wa, wk, rfl, _⟩ := hP.wy.shape
      have c13 : wr.cell? ⟨gr, 13, none⟩ = some (.slice wa (Rn.new k).ws.length wk) := hP.blk.1.cell 13
      have HP := hide hP
      have HBg := hide hBg
      clear hP hBg
      generalize hln : (Rn.new k).ws.length = kn1 at *
      obtain rfl : k = kn1 := hwl.symm
      have Hln := hide hln
      have HRow : Hid (wr.ownsRow 0 75 3 (.slice wa k wk) k ((Rn.new k).ws.flatMap Wy.cells)) := by have q := HP.out.wy.1; rw [hln] at q; exact q
      have HWl : Hid (∀ q, (Value.slice wa k wk).ownBlock = some q → L q = some (0, .dd)) := fun q hq => HP.out.wy.2 q hq
      clear hln hwl
      go_wp2_with (first
        | (at_builtin; refine wpList_append_lies _ rfl _ _ 32 rfl 0 75 i1 (.agg #[.int .i64 0, .int .i64 0, .int .i64 0]) 3 24 Tryz.underlying32 hi1 hy0 hy1 hy2 rfl (by decide) (.slice wa k wk) k ((Rn.new k).ws.flatMap Wy.cells) rfl (HRow.out.alloc _) ⟨wr.heap.size, 0, none⟩ 1 1 (Wy.cells ⟨-1, 0, 0⟩) rfl rfl (World.news_of_block (cs := (Wy.cells ⟨-1, 0, 0⟩).toArray) (t := 75) (fr := (0, 0)) (heap_alloc_new wr _)) (by simp [Value.oneCell', Wy.cells]) (by decide) (by unfold maxLen; omega) (by omega) (Nat.zero_le _) (wr.heap.size + 1) (by simp) ?_; intro g3 cap3 w3 hown3 hg3 hat3 hlt3; have hBk := Blk.grown (HP.out.blk.1.alloc _) hg3 (fun e => by have := HWl.out gr e.symm; rw [HP.out.blk.2] at this; simp at this); have z13 := hBk.cell 13; have y13 := hBk.frozen 13; simp [runCells] at z13; have Ho3 := hide hown3; have Hg3 := hide hg3; have Hat3 := hide hat3; clear hown3 hg3 hat3 hBk)
        | fail)
      have HW : Hid (∃ L', RunAt (w3.setCell ⟨gr, 13, none⟩ (.slice (some ⟨g3, 0, none⟩) (k + 1) cap3)) L' gr g b (madeC zs) (Rn.new (k + 1)) ∧ Step (ofP 0) L wr L' (w3.setCell ⟨gr, 13, none⟩ (.slice (some ⟨g3, 0, none⟩) (k + 1) cap3))) := by
        have q := wayed_step (y := ⟨-1, 0, 0⟩) HP.out (by rw [Hln.out]; exact Ho3.out) Hg3.out Hat3.out
        rw [Rn.new_succ, Hln.out] at q
        exact q
      go_roundw
      case rel =>
        obtain ⟨L', q1, q2⟩ := HW.out
        exact ⟨k + 1, L', by omega, by go_num, HBg.out.step q1 q2⟩
      case measure => simp [intOf]; omega
    · obtain rfl : dn = k := by omega
      have hltI : ¬ ((dn : Int) < (dn : Int)) := by omega
      obtain ⟨mn, hmn, hOM, _⟩ := hBg.rb.cm
      have hK0 := RK.start (w := w) HN.out Hdn.out hOM Hp.out Hns.out hBg.run hBg.ag hBg.rb
      have href := hK0.subOk (by show 0 < 100; omega) (d := 0) (tn := 0) (size := 5) (by rw [Hdn.out]; omega) (by omega) hN4 (by omega)
      have hFG := first_go HN.out Hdn.out hdn1 hOM Hns.out href
      have hpi := (PInv.new (ns := ns) (show GoodC (madeC zs) (DT (madeT zs N)) from by have := made_good zs; rw [← HN.out] at this; exact this)).submitted hK0.inv (rbat 0 0 0 5)
      have HSub := hide (rsub_any A w wr L gr g b zs N _ _ 0 0 0 5 HN.out HS.out hK0 (by omega) (by show 0 < 100; omega) (by omega) (by omega) (by omega))
      have HFG := hide hFG
      have Hpi := hide hpi
      clear hBg hOM hK0 href hFG hpi
      go_wp2_with fail
      refine HSub.out.mono ?_
      rintro e w4 ⟨rfl, L4, hK4⟩
      have hp0 : pickN 0 (madeC zs).d.toNat = 0 := by simp [pickN]
      have hp1 : pickN 0 N = 0 := by simp [pickN]
      rw [hp0, hp1] at hK4
      have hK4' : RK w w4 L4 gr g b zs N ((Rn.new dn).more (rbat 0 0 0 5)) ((Ag.new (madeC zs) (DT (madeT zs N)) ns).submitted (rbat 0 0 0 5)) 1 := hK4
      have HTk := hide (rtick_any w w4 L4 gr g b zs N _ _ 1 0 0 hK4' (by omega) (by omega) (by omega) (by omega))
      have hpi2 := Hpi.out.ticked hK4'.inv (ms := 0) (draw := 0) (by omega) (by omega) (by omega) (by omega)
      have hone := HFG.out.one
      obtain ⟨o, ho, hwy⟩ := HFG.out.way
      have Hpi2 := hide hpi2
      have Ho := hide ho
      have Hwy := hide hwy
      have Hone := hide hone
      clear hK4 hK4' hpi2 ho hwy hone HFG Hpi HSub c0 hp0 hp1
      go_wp2_with fail
      refine HTk.out.mono ?_
      rintro e w5 ⟨v, R5, L5, rfl, hRow5, hK5, hn5⟩
      obtain ⟨va, vk, rfl, _⟩ := hRow5.shape
      have hl5 : ((((Ag.new (madeC zs) (DT (madeT zs N)) ns).submitted (rbat 0 0 0 5)).ticked 0 0).2.length) = 1 := Hone.out
      rw [hl5]
      have HRp := hide (rreply_live w w5 L5 gr g b zs N R5 _ 2 0 o true 0 hK5 (by omega) (by omega) Ho.out Hwy.out)
      obtain ⟨p, bb, a1, a2, a3, a4⟩ := hK5.acked (by omega) (draw := 0) (by omega) Ho.out Hwy.out
      have hlen5 : R5.fs.length = 1 := by rw [← hK5.n, hn5]; rfl
      obtain rfl : p = 0 := by omega
      have hpi3 := Hpi2.out.replied hK5.inv (by omega) (draw := 0) (by omega) Ho.out Hwy.out true
      have Hpi3 := hide hpi3
      have Ha3 := hide a3
      have Ha4 := hide a4
      have Hn5 := hide hn5
      clear hRow5 hK5 hn5 hl5 a1 a2 a3 a4 hlen5 hpi3 Hpi2 Ho Hwy Hone HTk
      go_wp2_with fail
      refine HRp.out.mono ?_
      rintro e w6 ⟨rfl, R6, L6, hK6, hn6⟩
      obtain ⟨fv, wv, hP6⟩ := hK6.at'
      obtain ⟨f, hf⟩ : ∃ f, R6.fs[0]? = some f := ⟨_, List.getElem?_eq_getElem (by rw [← hK6.n, hn6, Hn5.out]; show 0 < 1; omega)⟩
      have hst : f.b.st = 2 := by
        have q := map_at hK6.bs hf
        rw [Ha3.out] at q
        cases q
        exact Ha4.out
      obtain ⟨gf, fk, rfl, _, hcf, _⟩ := hP6.fact hf
      have k12 : w6.cell? ⟨gr, 12, none⟩ = some (.slice (some ⟨gf, 0, none⟩) R6.fs.length fk) := hP6.blk.1.cell 12
      have k16 : w6.cell? ⟨gr, 16, none⟩ = some (.bool true) := hP6.blk.1.cell 16
      have k17 : w6.cell? ⟨gr, 17, none⟩ = some (.bool true) := hP6.blk.1.cell 17
      have k18 : w6.cell? ⟨gr, 18, none⟩ = some (.bool true) := hP6.blk.1.cell 18
      have f4 : w6.cell? ⟨gf, 4, none⟩ = some (.int .i64 2) := by rw [← hst]; exact hcf 4 _ rfl
      have hfl := (List.getElem?_eq_some_iff.1 hf).1
      have hflI : (0 : Int) < (R6.fs.length : Int) := by omega
      have HK6 := hide hK6
      have Hn6 : Hid (R6.n = 1) := by show _ = _; rw [hn6, Hn5.out]; rfl
      clear hK6 hP6 hcf hf hst
      go_wp2_with fail
      go_ret
      refine ⟨gr, rfl, g, b, R6, L6, ?_, Hn6.out⟩
      have q := HK6.out
      rw [Hns.out] at q
      exact q
set_option maxRecDepth 100000 in
set_option maxHeartbeats 8000000 in
theorem kplayed_q0 (A : Nat → Addr) (la sa : Option Addr) (cap scap : Nat) (zs : List Int) (ss : List St) (N : Nat) (hN : N = 1 + pickN (zs.getD 9 0) 4) (w : World) (hS : Sents.Holds w 197 gl 11 A) (h2 : StepsAt w sa ss) (hok : ∀ s ∈ ss, s.Ok) (hlen : ss.length ≤ 3600000000000)
    (HBeg : Calls Tryz.prog 13 #[.slice la zs.length cap] w fun e w' => ∃ gr, e = .returned (.pointer (some ⟨gr, 0, none⟩)) ∧ RunQ w zs N 3 gr (beginP zs N) w') :
    Calls Tryz.prog 5 #[.slice la zs.length cap, .slice sa ss.length scap] w fun e w' => ∃ gr, e = .returned (.pointer (some ⟨gr, 0, none⟩)) ∧ RunQ w zs N (ss.length + 3) gr (playedP zs N ss) w' := by
  have HBg := hide HBeg
  have HSt := hide (fun gr W t p (s : St) (hW : RunQ w zs N t gr p W) (ht : t + 10 ≤ 4000000000000) (hs : s.Ok) => kstep_q A w W gr zs N t p s hN hS hW ht hs)
  have H2 := hide h2
  have Hok := hide hok
  obtain ⟨ns, hns⟩ : ∃ ns, ss.length = ns := ⟨_, rfl⟩
  rw [hns] at hlen ⊢
  have Hns := hide hns
  generalize zs.length = nz at *
  clear hS h2 hok hN HBeg hns
  go_enter Tryz.func5, Tryz.ntmps5
  go_wp2_with fail
  refine HBg.out.mono ?_
  rintro e w1 ⟨gr, rfl, hR1⟩
  have HR1 := hide hR1
  clear hR1 HBg
  go_wp2_with fail
  go_loopw [6] (fun i wr => ∃ k : Nat, k ≤ ns ∧ i = .int .i64 k ∧ RunQ w zs N (k + 3) gr (playedP zs N (ss.take k)) wr) (fun i _ => ns - (intOf i).toNat)
  case atStart => exact ⟨0, Nat.zero_le _, rfl, HR1.out⟩
  case round =>
    clear HR1
    obtain ⟨k, hk, rfl, hR⟩ := hrel
    have k16 := hR.ok
    have HR := hide hR
    clear hR
    by_cases hlt : k < ns
    · have hltI : (k : Int) < (ns : Int) := by omega
      obtain ⟨s, hs⟩ : ∃ s, ss[k]? = some s := ⟨_, List.getElem?_eq_getElem (by rw [Hns.out]; exact hlt)⟩
      have hat := H2.out.below HR.out.b
      rcases hat with hnil | ⟨b, off, rfl, hbl, hc⟩
      · rw [hnil] at hs; cases hs
      have HRg : Hid (wr.rangeAt b (off + k * 5) s.cells) := fun j v hv => hc k s hs j v hv
      have HCall := hide (HSt.out gr wr (k + 3) _ s HR.out (by omega) (Hok.out s (List.mem_of_getElem? hs)))
      have Hpl : Hid (playedP zs N (ss.take (k + 1)) = stepP zs N (playedP zs N (ss.take k)) s) := playedP_succ hs
      clear hc hs hbl
      obtain ⟨sk, sd, st, sn, sg⟩ := s
      go_wp2_with (first
        | (refine wpList_load_mid rfl 57 _ rfl b (off + k * 5) rfl [.int .i64 sk, .int .i64 sd, .int .i64 st, .int .i64 sn, .bool sg] _ HRg.out Tryz.underlying57 rfl infoStep2 ?_)
        | fail)
      refine HCall.out.mono ?_
      rintro e w2 ⟨rfl, hR2⟩
      have HR2 := hide hR2
      clear hR2 HCall
      go_wp2_with fail
      go_roundw
      case rel => exact ⟨k + 1, by omega, by go_num, by rw [show k + 1 + 3 = k + 3 + 1 from by omega, Hpl.out]; exact HR2.out⟩
      case measure => simp [intOf]; omega
    · obtain rfl : ns = k := by omega
      have hltI : ¬ ((ns : Int) < (ns : Int)) := by omega
      go_wp2_with fail
      go_ret
      exact ⟨gr, rfl, by have q := HR.out; rw [List.take_of_length_le (by rw [Hns.out]; exact Nat.le_refl _)] at q; exact q⟩
theorem kplayed_q (A : Nat → Addr) (la sa : Option Addr) (cap scap : Nat) (zs : List Int) (ss : List St) (N : Nat) (hN : N = 1 + pickN (zs.getD 9 0) 4) (w : World) (hS : Sents.Holds w 197 gl 11 A) (hr : ∀ z ∈ zs, InR z) (h : IntsAt w la zs) (h2 : StepsAt w sa ss) (hok : ∀ s ∈ ss, s.Ok) (hlen : ss.length ≤ 3600000000000) :
    Calls Tryz.prog 5 #[.slice la zs.length cap, .slice sa ss.length scap] w fun e w' => ∃ gr, e = .returned (.pointer (some ⟨gr, 0, none⟩)) ∧ RunQ w zs N (ss.length + 3) gr (playedP zs N ss) w' :=
  kplayed_q0 A la sa cap scap zs ss N hN w hS h2 hok hlen (kbegin_q A la cap zs N hN w hS hr h)
end Go.Proofs.YtojpjaifhjigfabGreatDoor

/- The short log leads to what an agent has. -/
namespace Go.Proofs.YtojpjaifhjigfabGreatDoor
open Go.RowKit Go.Maps

/-- Events that can be, one behind the other, and what they make. -/
def Leads2 (M : Ag) (es : List Ev) (M' : Ag) : Prop := Chain M es ∧ es.foldl Ag.played M = M'
theorem Leads2.nil (M : Ag) : Leads2 M [] M := ⟨trivial, rfl⟩
theorem Leads2.append {M M1 M2 : Ag} {a b : List Ev} (h : Leads2 M a M1) (k : Leads2 M1 b M2) : Leads2 M (a ++ b) M2 := by
  induction a generalizing M with
  | nil => obtain ⟨_, rfl⟩ := h; exact k
  | cons e es ih =>
    obtain ⟨⟨h1, h2⟩, h3⟩ := h
    obtain ⟨q1, q2⟩ := ih ⟨h2, h3⟩
    exact ⟨⟨h1, q1⟩, q2⟩
theorem Leads2.one {M M' : Ag} {e : Ev} (h : M.canBe e = true) (h2 : M.played e = M') : Leads2 M [e] M' := ⟨⟨h, trivial⟩, h2⟩

/-- Some of the batches as they are, the others as when they were taken. -/
def mix (bs : List Bat) (q : Nat → Bool) : List Bat := bs.zipIdx.map (fun x => if q x.2 then x.1 else x.1.fresh)
theorem mix_at (bs : List Bat) (q : Nat → Bool) (i : Nat) : (mix bs q)[i]? = (bs[i]?).map (fun b => if q i then b else b.fresh) := by
  unfold mix
  rw [List.getElem?_map, List.getElem?_zipIdx]
  cases bs[i]? with
  | none => rfl
  | some b => simp
theorem mix_len (bs : List Bat) (q : Nat → Bool) : (mix bs q).length = bs.length := by simp [mix]
theorem mix_eq {bs : List Bat} {q q' : Nat → Bool} (h : ∀ (i : Nat) (b : Bat), bs[i]? = some b → (if q i then b else b.fresh) = (if q' i then b else b.fresh)) : mix bs q = mix bs q' := by
  apply List.ext_getElem?
  intro i
  rw [mix_at, mix_at]
  cases hb : bs[i]? with
  | none => rfl
  | some b => simp only [Option.map_some]; rw [h i b hb]
theorem mix_all {bs : List Bat} {q : Nat → Bool} (h : ∀ (i : Nat) (b : Bat), bs[i]? = some b → (if q i then b else b.fresh) = b) : mix bs q = bs := by
  apply List.ext_getElem?
  intro i
  rw [mix_at]
  cases hb : bs[i]? with
  | none => rfl
  | some b => simp only [Option.map_some]; rw [h i b hb]
/-- One of them ends. -/
theorem mix_end {bs : List Bat} {q : Nat → Bool} {p k f : Nat} {b : Bat} (hb : bs[p]? = some b) (hq : q p = false) (he : b.fresh.ended k f = b) : (mix bs q).modify p (fun x => x.ended k f) = mix bs (fun i => q i || i == p) := by
  apply List.ext_getElem?
  intro i
  rw [List.getElem?_modify, mix_at, mix_at]
  cases hi : bs[i]? with
  | none => rfl
  | some x =>
    by_cases e : p = i
    · subst e
      rw [hb] at hi
      cases hi
      simp [hq, he]
    · have e2 : (i == p) = false := by simpa using fun h => e h.symm
      simp [e, e2]
/-- The agent on the way. -/
def Ag.mid (M : Ag) (bs : List Bat) (ds : List Nat) : Ag := { Ag.new M.c M.D M.ns with bs := bs, dead := ds }
theorem mid_took {M : Ag} {t : Nat} (h : Inv M t) (hid : ∀ (i : Nat) b, M.bs[i]? = some b → b.id = kid i) (h100 : M.bs.length ≤ 100) : ∀ k, k ≤ M.bs.length → Leads2 (M.mid [] []) ((M.bs.take k).map tookEv) (M.mid ((M.bs.take k).map Bat.fresh) [])
  | 0, _ => Leads2.nil _
  | k + 1, hk => by
    have ih := mid_took h hid h100 k (by omega)
    obtain ⟨b, hb⟩ : ∃ b, M.bs[k]? = some b := ⟨_, List.getElem?_eq_getElem (by omega)⟩
    rw [List.take_add_one, hb, List.map_append, List.map_append]
    refine ih.append (Leads2.one ?_ ?_)
    · obtain ⟨q1, q2, q3, q4, q5, q6, _⟩ := h.each b (List.mem_of_getElem? hb)
      have hf : findId ((M.bs.take k).map Bat.fresh) b.id = -1 := by
        unfold findId
        have : ((M.bs.take k).map Bat.fresh).findIdx? (fun x => x.id == b.id) = none := by
          rw [List.findIdx?_eq_none_iff]
          intro x hx
          obtain ⟨y, hy, rfl⟩ := List.mem_map.1 hx
          obtain ⟨j, hj, e⟩ := List.getElem_of_mem hy
          rw [List.length_take] at hj
          rw [List.getElem_take] at e
          have h1 := hid j y (by rw [List.getElem?_eq_getElem (by omega), e])
          have h2 := hid k b hb
          simp only [beq_eq_false_iff_ne, ne_eq]
          show ¬ y.id = b.id
          rw [h1, h2]
          intro e2
          have := kid_inj (by omega) (by omega) e2
          omega
        rw [this]
      unfold Ag.canBe
      rw [if_pos (show (tookEv b).kind = 0 from rfl)]
      show ((M.mid ((M.bs.take k).map Bat.fresh) []).misfit b == 0) = true
      unfold Ag.misfit
      have e1 : destB (M.mid ((M.bs.take k).map Bat.fresh) []) b.dst = true := by simp [destB, Ag.mid, Ag.new]; omega
      have e2 : Maps.has (M.mid ((M.bs.take k).map Bat.fresh) []).D (.string b.ten) = true := (h.hs b.ten).1 q3
      have e3 : inB b.id.length 1 16 = true := by simp [inB]; omega
      have e5 : findId (M.mid ((M.bs.take k).map Bat.fresh) []).bs b.id = -1 := hf
      have e6 : (M.mid ((M.bs.take k).map Bat.fresh) []).bs.length < 120 := by
        show ((M.bs.take k).map Bat.fresh).length < 120
        rw [List.length_map, List.length_take]
        omega
      simp only [e1, e2, e3, e5, if_neg (show ¬ 63 < b.body.length by omega), if_neg (show ¬ 120 ≤ (M.mid ((M.bs.take k).map Bat.fresh) []).bs.length by omega)]
      simp
    · unfold Ag.played
      rw [if_pos (show (tookEv b).kind = 0 from rfl)]
      rfl
theorem fresh_ended {b : Bat} {k : Nat} (hf : 0 ≤ b.fl) (hs : b.st = (if k = 1 then 2 else if k = 3 then 3 else 1)) : b.fresh.ended k b.fl.toNat = b := by
  obtain ⟨d, t, i, bo, st, fl⟩ := b
  simp only at hs hf
  subst hs
  simp only [Bat.ended, Bat.fresh, Bat.mk.injEq, true_and]
  omega
/-- An event of one batch, on the way. -/
theorem mid_end {M : Ag} {t : Nat} (h : Inv M t) {q : Nat → Bool} {ds : List Nat} {p k : Nat} {b : Bat} (hb : M.bs[p]? = some b) (hq : q p = false) (hk : k = 1 ∧ b.st = 2 ∨ k = 2 ∧ b.st = 1 ∧ 0 < b.fl ∨ k = 3 ∧ b.st = 3) : Leads2 (M.mid (mix M.bs q) ds) [Ev.of k p b.fl.toNat] (M.mid (mix M.bs (fun i => q i || i == p)) (if k = 3 then ds ++ [p] else ds)) := by
  obtain ⟨_, _, _, _, _, _, hf0, hst⟩ := h.each b (List.mem_of_getElem? hb)
  have hm : (mix M.bs q)[p]? = some b.fresh := by rw [mix_at, hb]; simp [hq]
  have hk0 : k ≠ 0 := by omega
  refine Leads2.one ?_ ?_
  · unfold Ag.canBe
    rw [if_neg (show ¬ (Ev.of k p b.fl.toNat).kind = 0 from hk0)]
    show (match (mix M.bs q)[p]? with | none => false | some b' => decide (b'.st = 1) && (if k = 1 then decide (b'.fl + (b.fl.toNat : Int) < M.c.at') else if k = 2 then decide (b'.fl + (b.fl.toNat : Int) < M.c.at') && decide (0 < b.fl.toNat) else if k = 3 then decide (b'.fl + (b.fl.toNat : Int) = M.c.at') else false)) = true
    rw [hm]
    show (decide ((1 : Int) = 1) && (if k = 1 then decide ((0 : Int) + (b.fl.toNat : Int) < M.c.at') else if k = 2 then decide ((0 : Int) + (b.fl.toNat : Int) < M.c.at') && decide (0 < b.fl.toNat) else if k = 3 then decide ((0 : Int) + (b.fl.toNat : Int) = M.c.at') else false)) = true
    rcases hk with ⟨rfl, h1⟩ | ⟨rfl, h1, h2⟩ | ⟨rfl, h1⟩
    · simp; omega
    · simp; omega
    · simp; omega
  · unfold Ag.played
    rw [if_neg (show ¬ (Ev.of k p b.fl.toNat).kind = 0 from hk0)]
    have he : b.fresh.ended k b.fl.toNat = b := fresh_ended hf0 (by rcases hk with ⟨rfl, h1⟩ | ⟨rfl, h1, h2⟩ | ⟨rfl, h1⟩ <;> simp [h1])
    have := mix_end hb hq he
    show ({ M.mid (mix M.bs q) ds with bs := (mix M.bs q).modify p (fun x => x.ended k b.fl.toNat), dead := if k = 3 then ds ++ [p] else ds } : Ag) = _
    rw [this]
    rfl
def endQ (bs : List Bat) (k : Nat) : Nat → Bool := fun i => decide (i < k) && decide ((bs[i]?).map (·.st) ≠ some 3)
theorem endQ_self (bs : List Bat) (k : Nat) : endQ bs k k = false := by simp [endQ]
theorem endQ_other (bs : List Bat) {k i : Nat} (h : i ≠ k) : endQ bs (k + 1) i = endQ bs k i := by
  have e3 : (i < k + 1) = (i < k) := by rw [eq_iff_iff]; omega
  simp [endQ, e3]
theorem mid_ends {M : Ag} {t : Nat} (h : Inv M t) : ∀ k, k ≤ M.bs.length → Leads2 (M.mid (mix M.bs (fun _ => false)) []) (endsOf M.bs k) (M.mid (mix M.bs (endQ M.bs k)) [])
  | 0, _ => by
    have : mix M.bs (endQ M.bs 0) = mix M.bs (fun _ => false) := mix_eq (fun i b _ => by simp [endQ])
    rw [this]
    exact Leads2.nil _
  | k + 1, hk => by
    have ih := mid_ends h k (by omega)
    obtain ⟨b, hb⟩ : ∃ b, M.bs[k]? = some b := ⟨_, List.getElem?_eq_getElem (by omega)⟩
    obtain ⟨_, _, _, _, _, _, hf0, hst⟩ := h.each b (List.mem_of_getElem? hb)
    have hq := endQ_self M.bs k
    have hne : b.st ≠ 3 → mix M.bs (endQ M.bs (k + 1)) = mix M.bs (fun i => endQ M.bs k i || i == k) := fun h3 => mix_eq (fun i x hx => by
      by_cases e : i = k
      · subst e
        have : endQ M.bs (i + 1) i = true := by simp [endQ, hb, h3]
        simp [this]
      · have e2 : (i == k) = false := by simpa using e
        rw [endQ_other M.bs e, e2, Bool.or_false])
    unfold endsOf
    rw [hb]
    simp only
    refine ih.append ?_
    unfold endEv
    by_cases h2 : b.st = 2
    · rw [if_pos h2, hne (by omega)]
      have := mid_end (q := endQ M.bs k) (ds := []) (k := 1) h hb hq (Or.inl ⟨rfl, h2⟩)
      rw [if_neg (by omega)] at this
      exact this
    · rw [if_neg h2]
      by_cases h1 : b.st = 1 ∧ 0 < b.fl
      · rw [if_pos h1, hne (by omega)]
        have := mid_end (q := endQ M.bs k) (ds := []) (k := 2) h hb hq (Or.inr (Or.inl ⟨rfl, h1⟩))
        rw [if_neg (by omega)] at this
        exact this
      · rw [if_neg h1]
        have e : mix M.bs (endQ M.bs (k + 1)) = mix M.bs (endQ M.bs k) := mix_eq (fun i x hx => by
          by_cases e : i = k
          · subst e
            rw [hb] at hx
            cases hx
            rcases hst with ⟨a1, _⟩ | ⟨a1, _⟩ | ⟨a1, _⟩
            · have hz : b.fl = 0 := by omega
              have hfr : b.fresh = b := by
                obtain ⟨d, t, i, bo, st, fl⟩ := b
                simp only at a1 hz
                subst a1 hz
                rfl
              simp [hfr]
            · exact absurd a1 h2
            · have : endQ M.bs (i + 1) i = false := by simp [endQ, hb, a1]
              rw [this, hq]
          · rw [endQ_other M.bs e])
        rw [e]
        exact Leads2.nil _
def deadQ (bs : List Bat) (ds : List Nat) : Nat → Bool := fun i => decide ((bs[i]?).map (·.st) ≠ some 3) || decide (i ∈ ds)
theorem mid_died {M : Ag} {t : Nat} (h : Inv M t) : ∀ j, j ≤ M.dead.length → Leads2 (M.mid (mix M.bs (deadQ M.bs [])) []) ((M.dead.take j).map (diedEv M.bs)) (M.mid (mix M.bs (deadQ M.bs (M.dead.take j))) (M.dead.take j))
  | 0, _ => Leads2.nil _
  | j + 1, hj => by
    have ih := mid_died h j (by omega)
    obtain ⟨p, hp⟩ : ∃ p, M.dead[j]? = some p := ⟨_, List.getElem?_eq_getElem (by omega)⟩
    obtain ⟨b, hb, hst⟩ := (h.dead p).1 (List.mem_of_getElem? hp)
    have hsp : M.dead.take (j + 1) = M.dead.take j ++ [p] := by rw [List.take_add_one, hp]; rfl
    have hpn : p ∉ M.dead.take j := fun hm => by
      have h1 : (M.dead.take (j + 1)).Nodup := h.ddn.sublist (List.take_sublist _ _)
      rw [hsp, List.nodup_append] at h1
      exact h1.2.2 p hm p (by simp) rfl
    have hq : deadQ M.bs (M.dead.take j) p = false := by simp [deadQ, hb, hst, hpn]
    rw [hsp, List.map_append]
    refine ih.append ?_
    have hev : [p].map (diedEv M.bs) = [Ev.of 3 p b.fl.toNat] := by simp [diedEv, hb]
    rw [hev]
    have := mid_end (q := deadQ M.bs (M.dead.take j)) (ds := M.dead.take j) (k := 3) h hb hq (Or.inr (Or.inr ⟨rfl, hst⟩))
    rw [if_pos rfl] at this
    have e : mix M.bs (deadQ M.bs (M.dead.take j ++ [p])) = mix M.bs (fun i => deadQ M.bs (M.dead.take j) i || i == p) := mix_eq (fun i x _ => by
      have : deadQ M.bs (M.dead.take j ++ [p]) i = (deadQ M.bs (M.dead.take j) i || i == p) := by
        by_cases e : i = p
        · subst e; simp [deadQ]
        · have e2 : (i == p) = false := by simpa using e
          simp [deadQ, e]
      rw [this])
    rw [e]
    exact this
/-- The short way leads there. -/
theorem way_leads {M : Ag} {t : Nat} (h : Inv M t) (hid : ∀ (i : Nat) b, M.bs[i]? = some b → b.id = kid i) (h100 : M.bs.length ≤ 100) : Leads2 (Ag.new M.c M.D M.ns) M.way M.core := by
  have h1 := mid_took h hid h100 M.bs.length (Nat.le_refl _)
  rw [List.take_length] at h1
  have h2 := mid_ends h M.bs.length (Nat.le_refl _)
  have h3 := mid_died h M.dead.length (Nat.le_refl _)
  rw [List.take_length] at h3
  have e1 : mix M.bs (fun _ => false) = M.bs.map Bat.fresh := by
    apply List.ext_getElem?
    intro i
    rw [mix_at, List.getElem?_map]
    cases M.bs[i]? <;> rfl
  rw [e1] at h2
  have e2 : mix M.bs (endQ M.bs M.bs.length) = mix M.bs (deadQ M.bs []) := mix_eq (fun i b hb => by
    have := (List.getElem?_eq_some_iff.1 hb).1
    simp [endQ, deadQ, this])
  rw [e2] at h2
  have e3 : mix M.bs (deadQ M.bs M.dead) = M.bs := mix_all (fun i b hb => by
    by_cases hs : b.st = 3
    · have : i ∈ M.dead := (h.dead i).2 ⟨b, hb, hs⟩
      simp [deadQ, this]
    · simp [deadQ, hb, hs])
  rw [e3] at h3
  exact (h1.append h2).append h3
end Go.Proofs.YtojpjaifhjigfabGreatDoor

/- In the end all is over: as plain data. -/
namespace Go.Proofs.YtojpjaifhjigfabGreatDoor
open Go.RowKit Go.Maps

/-- How many batches wait for a destination. -/
def pcount (bs : List Bat) (d : Nat) : Nat := bs.countP (fun b => decide (b.dst = (d : Int)) && decide (b.st = 1))
theorem pcount_none {bs : List Bat} {d : Nat} (h : pcount bs d = 0) : ∀ b ∈ bs, b.st = 1 → b.dst ≠ d := fun b hb hst hd => by
  have := List.countP_eq_zero.1 h b hb
  simp [hst, hd] at this
theorem pcount_some {bs : List Bat} {d : Nat} (h : pcount bs d ≠ 0) : ∃ b ∈ bs, b.st = 1 ∧ b.dst = d := by
  obtain ⟨b, hb, h2⟩ := List.countP_pos_iff.1 (Nat.pos_of_ne_zero h)
  simp at h2
  exact ⟨b, hb, h2.2, h2.1⟩
theorem pcount_le (bs : List Bat) (d : Nat) : pcount bs d ≤ bs.countP (fun b => decide (b.st = 1)) := List.countP_mono_left (fun b _ h => by simp at h ⊢; exact h.2)
theorem pcount_all {bs : List Bat} {dn : Nat} (hd : ∀ b ∈ bs, 0 ≤ b.dst ∧ b.dst < dn) (h : ∀ d, d < dn → pcount bs d = 0) : bs.countP (fun b => decide (b.st = 1)) = 0 := by
  rw [List.countP_eq_zero]
  intro b hb hst
  obtain ⟨h0, h1⟩ := hd b hb
  have := pcount_none (h b.dst.toNat (by omega)) b hb (by simpa using hst)
  omega
theorem pcount_set {bs : List Bat} {p : Nat} {b b' : Bat} {d : Nat} (hb : bs[p]? = some b) (h1 : b.st = 1) (h2 : b.dst = (d : Int)) (h3 : b'.st ≠ 1) (d' : Nat) : pcount (bs.set p b') d' + (if d' = d then 1 else 0) = pcount bs d' := by
  obtain ⟨hp, e⟩ := List.getElem?_eq_some_iff.1 hb
  unfold pcount
  rw [List.countP_set hp, e]
  have hq : (decide (b'.dst = (d' : Int)) && decide (b'.st = 1)) = false := by simp [h3]
  rw [hq]
  by_cases hd : d' = d
  · subst hd
    have hm : 0 < bs.countP (fun b => decide (b.dst = (d' : Int)) && decide (b.st = 1)) := List.countP_pos_iff.2 ⟨b, by rw [← e]; exact List.getElem_mem hp, by simp [h1, h2]⟩
    simp [h1, h2]
    omega
  · have : ¬ ((d : Int) = (d' : Int)) := by omega
    simp [h1, h2, this, hd]
/-- What a good answer leaves. -/
structure RepliedTo (M M' : Ag) (d : Nat) : Prop where
  os : ∀ d', d' ≠ d → M'.os[d']? = M.os[d']?
  way : ∃ o', M'.os[d]? = some o' ∧ o'.way = -1
  cnt : ∀ d', pcount M'.bs d' + (if d' = d then 1 else 0) = pcount M.bs d'
theorem Inv.repliedTo {M : Ag} {t d : Nat} {o : Out} (h : Inv M t) (ht : t ≤ 10000000000000) (ho : M.os[d]? = some o) (hw : o.way ≠ -1) : RepliedTo M (M.replied d true 0) d := by
  obtain ⟨p, b, r, hs, h1, h2, _⟩ := h.setOk ht (Int.le_refl 0) ho hw
  obtain ⟨k, _, _, f, e⟩ := replied_eq hs true
  rw [e, over_eq hs true]
  have hl := (List.getElem?_eq_some_iff.1 ho).1
  refine ⟨fun d' hd' => List.getElem?_set_ne (fun e => hd' e.symm), ⟨_, List.getElem?_set_self hl, (heard_same o M.c M.now true).1⟩, fun d' => ?_⟩
  exact pcount_set hs.hb h1 h2 (show (b.ended 1 0).st ≠ 1 by simp [Bat.ended]) d'
/-- How far it is: what is under way counts for one. -/
structure Liv (S : List Sd) (n : Nat) (M : Ag) : Prop where
  cnt : ∀ (d : Nat) (o : Out), M.os[d]? = some o → pcount M.bs d ≤ n + (if o.way = -1 then 0 else 1)
  way : ∀ (d : Nat) (o : Out), M.os[d]? = some o → (o.way ≠ -1 ↔ ∃ s ∈ S, s.d = (d : Int))
theorem Liv.next {s : Sd} {S : List Sd} {n d : Nat} {M M' : Ag} (h : Liv (s :: S) n M) (hd : s.d = (d : Int)) (hn : ∀ s' ∈ S, s'.d ≠ s.d) (k : RepliedTo M M' d) (hl : d < M.os.length) : Liv S n M' := by
  obtain ⟨o, ho⟩ : ∃ o, M.os[d]? = some o := ⟨_, List.getElem?_eq_getElem hl⟩
  obtain ⟨o', ho', hw'⟩ := k.way
  have hwo : o.way ≠ -1 := (h.way d o ho).2 ⟨s, by simp, hd⟩
  refine ⟨fun d1 o1 ho1 => ?_, fun d1 o1 ho1 => ?_⟩
  · have hc := k.cnt d1
    by_cases e : d1 = d
    · subst e
      rw [ho'] at ho1
      cases ho1
      have := h.cnt d1 o ho
      rw [if_neg hwo] at this
      rw [if_pos hw']
      simp at hc
      omega
    · rw [k.os d1 e] at ho1
      have := h.cnt d1 o1 ho1
      simp [e] at hc
      omega
  · by_cases e : d1 = d
    · subst e
      rw [ho'] at ho1
      cases ho1
      refine ⟨fun hh => absurd hw' hh, fun ⟨s', hs', e⟩ => ?_⟩
      exact absurd (e.trans hd.symm) (hn s' hs')
    · rw [k.os d1 e] at ho1
      rw [h.way d1 o1 ho1]
      refine ⟨fun ⟨s', hs', e'⟩ => ?_, fun ⟨s', hs', e'⟩ => ⟨s', List.mem_cons_of_mem _ hs', e'⟩⟩
      rcases List.mem_cons.1 hs' with rfl | hs'
      · exact absurd (by omega : d1 = d) e
      · exact ⟨s', hs', e'⟩
theorem Liv.idle {n : Nat} {M : Ag} (h : Liv [] n M) : (∀ (d : Nat) (o : Out), M.os[d]? = some o → o.way = -1) ∧ ∀ (d : Nat) (o : Out), M.os[d]? = some o → pcount M.bs d ≤ n := by
  have hw : ∀ (d : Nat) (o : Out), M.os[d]? = some o → o.way = -1 := fun d o ho => by
    by_cases e : o.way = -1
    · exact e
    · obtain ⟨s, hs, _⟩ := (h.way d o ho).1 e
      cases hs
  refine ⟨hw, fun d o ho => ?_⟩
  have := h.cnt d o ho
  rw [if_pos (hw d o ho)] at this
  exact this
theorem sentTo_d (M : Ag) (d : Nat) : ∀ s ∈ (M.sentTo d).2, s.d = (d : Int) := fun s hs => by
  unfold Ag.sentTo at hs
  cases ho : M.os[d]? with
  | none => rw [ho] at hs; cases hs
  | some o =>
    rw [ho] at hs
    simp only at hs
    split at hs
    · cases hs
    · obtain rfl := List.mem_singleton.1 hs
      rfl
theorem sentTo_rests1 {M : Ag} {d : Nat} (hs : (M.sizes d).all (· == 0) = true) : (M.sentTo d).1 = M := by
  unfold Ag.sentTo
  cases M.os[d]? with
  | none => rfl
  | some o => simp only; rw [if_pos (Or.inr (Or.inr hs))]
/-- One tick, long enough: to each destination for which something waits one goes. -/
structure TickLive (M : Ag) (n : Nat) (x : Ag × List Sd) : Prop where
  liv : Liv x.2 n x.1
  nod : (x.2.map Sd.d).Nodup
  all : ∀ s ∈ x.2, ∃ d : Nat, s.d = (d : Int) ∧ d < M.os.length
  len : x.1.os.length = M.os.length
theorem Inv.tickLive {M : Ag} {t n : Nat} {ms : Int} (hi : Inv M t) (hp : PInv M) (hidle : ∀ (d : Nat) (o : Out), M.os[d]? = some o → o.way = -1) (h0 : 0 ≤ ms) (h1 : M.c.ca ≤ ms) (h2 : M.c.op ≤ ms) (hn : ∀ (d : Nat) (o : Out), M.os[d]? = some o → pcount M.bs d ≤ n + 1) : TickLive M n (M.ticked ms 0) := by
  obtain ⟨X, hX⟩ : ∃ X, M.later ms = X := ⟨_, rfl⟩
  have hos : X.os = M.os := by rw [← hX]; rfl
  have hbs : X.bs = M.bs := by rw [← hX]; rfl
  have hns : X.ns = M.ns := by rw [← hX]; rfl
  have hrt : ∀ r ∈ X.rt, r.fr ≤ X.now := fun r hr => by
    rw [← hX] at hr ⊢
    have := hp.fr r hr
    show r.fr ≤ M.now + ms
    omega
  have hun : ∀ o ∈ X.os, o.unt ≤ X.now := fun o ho => by
    rw [← hX] at ho ⊢
    have := hp.un o ho
    show o.unt ≤ M.now + ms
    omega
  have hnow : 0 ≤ X.now := by rw [← hX]; have := hi.nw0; show 0 ≤ M.now + ms; omega
  have ht : M.ticked ms 0 = X.sentOut M.os.length := by
    unfold Ag.ticked
    rw [hX, timed_idle (M := X) (fun d o ho => hidle d o (by rw [← hos]; exact ho)) 0, hos]
  have hA : ∀ d, pcount M.bs d = 0 → (X.sizes d).all (· == 0) = true := fun d hd => sizes_none (fun b hb hst => pcount_none hd b (by rw [← hbs]; exact hb) hst)
  have hB : ∀ (d : Nat) (o : Out), M.os[d]? = some o → pcount M.bs d ≠ 0 → (X.sentTo d).2.length = 1 ∧ ∃ o' : Out, (X.sentTo d).1.os[d]? = some o' ∧ o'.way ≠ -1 := fun d o ho hd => by
    obtain ⟨b, hb, hst, hdst⟩ := pcount_some hd
    refine sentTo_goes (by rw [hos]; exact ho) (hidle d o ho) (fun _ => hun o (by rw [hos]; exact List.mem_of_getElem? ho)) (sizes_some (b := b) (by rw [hbs]; exact hb) hst hdst ?_ hrt hnow)
    rw [hns]
    exact (hi.each b hb).2.2.1
  have hS : ∀ k, k ≤ M.os.length → (∀ s ∈ (X.sentOut k).2, ∃ d : Nat, d < k ∧ s.d = (d : Int) ∧ pcount M.bs d ≠ 0) ∧ (∀ d, d < k → pcount M.bs d ≠ 0 → ∃ s ∈ (X.sentOut k).2, s.d = (d : Int)) ∧ ((X.sentOut k).2.map Sd.d).Nodup := fun k => by
    induction k with
    | zero => exact fun _ => ⟨fun s hs => (by cases hs), fun d hd => absurd hd (by omega), List.nodup_nil⟩
    | succ k ih =>
      intro hk
      obtain ⟨i1, i2, i3⟩ := ih (by omega)
      rw [sentOut_succ2]
      obtain ⟨o, ho⟩ : ∃ o, M.os[k]? = some o := ⟨_, List.getElem?_eq_getElem (by omega)⟩
      by_cases hc : pcount M.bs k = 0
      · rw [sentTo_rests (hA k hc), List.append_nil]
        refine ⟨fun s hs => ?_, fun d hd hne => ?_, i3⟩
        · obtain ⟨d, q1, q2⟩ := i1 s hs
          exact ⟨d, by omega, q2⟩
        · refine i2 d ?_ hne
          rcases Nat.lt_or_ge d k with h | h
          · exact h
          · exact absurd ((by omega : d = k) ▸ hc) hne
      · obtain ⟨g1, _⟩ := hB k o ho hc
        obtain ⟨s0, hs0⟩ : ∃ s0, (X.sentTo k).2 = [s0] := List.length_eq_one_iff.1 g1
        have hd0 : s0.d = (k : Int) := sentTo_d X k s0 (by rw [hs0]; simp)
        rw [hs0]
        refine ⟨fun s hs => ?_, fun d hd hne => ?_, ?_⟩
        · rcases List.mem_append.1 hs with hs | hs
          · obtain ⟨d, q1, q2⟩ := i1 s hs
            exact ⟨d, by omega, q2⟩
          · obtain rfl := List.mem_singleton.1 hs
            exact ⟨k, by omega, hd0, hc⟩
        · rcases Nat.lt_or_ge d k with h | h
          · obtain ⟨s, hs, e⟩ := i2 d h hne
            exact ⟨s, List.mem_append_left _ hs, e⟩
          · exact ⟨s0, by simp, by rw [hd0]; omega⟩
        · rw [List.map_append, List.nodup_append]
          refine ⟨i3, by simp, fun a ha b hb e => ?_⟩
          obtain ⟨s, hs, rfl⟩ := List.mem_map.1 ha
          obtain ⟨d, q1, q2, _⟩ := i1 s hs
          simp at hb
          subst hb
          omega
  obtain ⟨s1, s2, s3⟩ := hS M.os.length (Nat.le_refl _)
  obtain ⟨_, _, _, e4, _, _⟩ := sentOut_same X M.os.length
  have hl : (X.sentOut M.os.length).1.os.length = M.os.length := by
    have key : ∀ k, (X.sentOut k).1.os.length = X.os.length := fun k => by
      induction k with
      | zero => rfl
      | succ k ih =>
        show ((X.sentOut k).1.sentTo k).1.os.length = _
        rw [← ih]
        unfold Ag.sentTo
        cases (X.sentOut k).1.os[k]? with
        | none => rfl
        | some o => simp only; split <;> simp
    rw [key, hos]
  rw [ht]
  refine ⟨⟨fun d o ho => ?_, fun d o ho => ?_⟩, s3, fun s hs => ?_, hl⟩
  · have hdl : d < M.os.length := by rw [← hl]; exact (List.getElem?_eq_some_iff.1 ho).1
    obtain ⟨o0, ho0⟩ : ∃ o0, M.os[d]? = some o0 := ⟨_, List.getElem?_eq_getElem hdl⟩
    have hb' : (X.sentOut M.os.length).1.bs = M.bs := e4.trans hbs
    rw [hb']
    by_cases hw : o.way = -1
    · rw [if_pos hw]
      by_cases hc : pcount M.bs d = 0
      · omega
      · obtain ⟨_, o', g2, g3⟩ := hB d o0 ho0 hc
        have ho2 : (X.sentOut M.os.length).1.os[d]? = some o := ho
        rw [sentOut_at X M.os.length d hdl, g2] at ho2
        cases ho2
        exact absurd hw g3
    · rw [if_neg hw]
      exact hn d o0 ho0
  · have hdl : d < M.os.length := by rw [← hl]; exact (List.getElem?_eq_some_iff.1 ho).1
    obtain ⟨o0, ho0⟩ : ∃ o0, M.os[d]? = some o0 := ⟨_, List.getElem?_eq_getElem hdl⟩
    have ho2 : (X.sentOut M.os.length).1.os[d]? = some o := ho
    rw [sentOut_at X M.os.length d hdl] at ho2
    by_cases hc : pcount M.bs d = 0
    · rw [sentTo_rests1 (hA d hc), hos, ho0] at ho2
      cases ho2
      refine ⟨fun h => absurd (hidle d _ ho0) h, fun ⟨s, hs, e⟩ => ?_⟩
      obtain ⟨d', _, q2, q3⟩ := s1 s hs
      have : d' = d := by omega
      subst this
      exact absurd hc q3
    · obtain ⟨_, o', g2, g3⟩ := hB d o0 ho0 hc
      rw [g2] at ho2
      cases ho2
      exact ⟨fun _ => s2 d hdl hc, fun _ => g3⟩
  · obtain ⟨d, q1, q2, _⟩ := s1 s hs
    exact ⟨d, q2, q1⟩
end Go.Proofs.YtojpjaifhjigfabGreatDoor
