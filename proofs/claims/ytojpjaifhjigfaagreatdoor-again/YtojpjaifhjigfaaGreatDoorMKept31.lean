/- Steps of the proof (several texts in one): AgainWalk, ProofBase. -/
import Derived.Test.YtojpjaifhjigfaaGreatDoorMKept28
import Derived.Test.YtojpjaifhjigfaaGreatDoorMKept30
import Derived.Test.YtojpjaifhjigfaaGreatDoorRows
import Derived.Test.YtojpjaifhjigfaaGreatDoorCards
import Derived.Test.YtojpjaifhjigfaaGreatDoorTie
import Derived.Test.YtojpjaifhjigfaaGreatDoorMKept02
import Derived.ProofKit
import Derived.LaidMore
import Derived.OpenShut
import Derived.Stop.Joined
import Derived.SevenTiedAt

/- conduitkeep.Again. -/
namespace Go.Proofs.YtojpjaifhjigfaaGreatDoor
open Go.RowKit Go.Maps

theorem infoBatch1 : (Tryz.prog.info? 45).map (·.size) = some 4 := by kernel_rfl
/-- When the second agent has been opened. -/
structure AStart (w wr : World) (L : Labs) (gr g gx gy cm : Nat) (zs : List Int) (R : Rn) (X Y : Ag) (t : Nat) : Prop where
  a : AAt w wr L gr g gx gy cm zs R X Y t
  bs : R.fs.map Fa.b = X.bs
  ids : ∀ (i : Nat) b, X.bs[i]? = some b → b.id = kid i
  idle : ∀ (d : Nat) (o : Out), X.os[d]? = some o → o.way = -1
  short : Y.log.length ≤ 16 + mostOf X.bs
theorem AStart.below {w wr w' : World} {L : Labs} {gr g gx gy cm : Nat} {zs : List Int} {R : Rn} {X Y : Ag} {t : Nat} (h : AStart w wr L gr g gx gy cm zs R X Y t) (hb : Below wr.heap.size wr w') : AStart w w' L gr g gx gy cm zs R X Y t := ⟨h.a.below hb, h.bs, h.ids, h.idle, h.short⟩

theorem AIn.below {w wr w' : World} {L : Labs} {gr g gx gy cm : Nat} {zs : List Int} {R : Rn} {X Y : Ag} {t n : Nat} {S : List Sd} {va vb : Value} {j : Nat} (h : AIn w wr L gr g gx gy cm zs R X Y t n S va vb j) (hb : Below wr.heap.size wr w') : AIn w w' L gr g gx gy cm zs R X Y t n S va vb j :=
  ⟨h.a.below hb, h.liv, h.tr, h.ra.keep (Step.of_below (p := fun _ => False) hb) (fun h => h), h.rb.keep (Step.of_below (p := fun _ => False) hb) (fun h => h)⟩
/-- The cells of one send. -/
theorem send_cells {w : World} {L : Labs} {l : Lab} {ga sl vk : Nat} {S : List Sd} {j : Nat} {s : Sd} (h : RowAt w L l 68 4 (.slice (some ⟨ga, 0, none⟩) sl vk) sl (S.flatMap Sd.cells)) (hs : S[j]? = some s) (hl : j < sl) : w.cell? ⟨ga, j * 4, none⟩ = some (.int .i64 s.d) ∧ w.cell? ⟨ga, j * 4 + 1, none⟩ = some (.int .i64 s.try') ∧ w.cell? ⟨ga, j * 4 + 2, none⟩ = some (encStr s.id) ∧ w.cell? ⟨ga, j * 4 + 3, none⟩ = some (encStr s.body) := by
  obtain ⟨g', e, _, _, hc, _⟩ := h.head (by omega)
  simp only [Option.some.injEq, Addr.mk.injEq, and_true] at e
  subst e
  exact ⟨hc _ _ (flat_cell Sd.cells 4 (fun _ => rfl) hs (j := 0) (by omega) rfl), hc _ _ (flat_cell Sd.cells 4 (fun _ => rfl) hs (j := 1) (by omega) rfl), hc _ _ (flat_cell Sd.cells 4 (fun _ => rfl) hs (j := 2) (by omega) rfl), hc _ _ (flat_cell Sd.cells 4 (fun _ => rfl) hs (j := 3) (by omega) rfl)⟩
theorem most_le {X : Ag} {t : Nat} (h : Inv X t) : ∀ k, mostOf (X.bs.take k) ≤ 200 * k
  | 0 => by simp [mostOf]
  | k + 1 => by
    have ih := most_le h k
    unfold mostOf at ih ⊢
    rw [List.take_add_one, List.map_append, List.sum_append]
    cases hb : X.bs[k]? with
    | none => show _ + 0 ≤ _; omega
    | some b =>
      obtain ⟨_, _, e3, _, e5, e6, _⟩ := h.each b (List.mem_of_getElem? hb)
      have e7 := (h.sl _ e3).2
      have e : ((some b).toList.map (fun b => 16 + b.id.length + b.ten.length + b.body.length)).sum = 16 + b.id.length + b.ten.length + b.body.length := by simp
      rw [e]
      omega

set_option maxRecDepth 100000 in
set_option maxHeartbeats 16000000 in
theorem again_any (A : Nat → Addr) (la sa : Option Addr) (cap scap : Nat) (zs : List Int) (ss : List St) (w : World) (hS : Sents.Holds w 260 gl 11 A) (hr : ∀ z ∈ zs, InR z) (h : IntsAt w la zs) (h2 : StepsAt w sa ss) (hok : ∀ s ∈ ss, s.Ok) (hlen : ss.length ≤ 3600000000000) :
    Calls Tryz.prog 13 #[.slice la zs.length cap, .slice sa ss.length scap] w fun e w' => e = .returned (.bool true) ∧ Below w.heap.size w w' := by
  obtain ⟨N, hN⟩ : ∃ N, N = 1 + pickN (zs.getD 9 0) 4 := ⟨_, rfl⟩
  have HP := hide (kplayed_any A la sa cap scap zs ss N hN w hS hr h h2 hok hlen)
  have hcfg := Cfg.ok (made_good zs).1
  obtain ⟨dn, hdn⟩ : ∃ dn : Nat, (madeC zs).d = dn := ⟨(madeC zs).d.toNat, by have := hcfg.d; omega⟩
  have hdn4 : dn ≤ 4 := by have := hcfg.d; omega
  have Hdn := hide hdn
  have HN := hide hN
  have HS := hide hS
  generalize zs.length = nz at *
  generalize hns : ss.length = ns at *
  clear h hr hS h2 hok hns hcfg hN hdn
  go_enter Tryz.func13, Tryz.ntmps13
  go_wp2_with fail
  refine HP.out.mono ?_
  rintro e w1 ⟨gr, rfl, hR⟩
  obtain ⟨g, cm, R, M, L, hK0, hP0⟩ := hR
  have hK := hK0.clip
  have hLn : ∀ k, w1.heap.size ≤ k → clip L w1.heap.size k = none := fun _ hk => clip_none L hk
  generalize clip L w1.heap.size = L at *
  obtain ⟨t, ht⟩ : ∃ t, ns + 3 = t := ⟨_, rfl⟩
  rw [ht] at hK
  have ht2 : t ≤ 3600000000003 := by omega
  clear hK0 hP0 HP ht
  obtain ⟨fv, wv, hP⟩ := hK.at'
  have c0 : w1.cell? ⟨gr, 0, none⟩ = some (.pointer (some ⟨g, 0, none⟩)) := hP.blk.1.cell 0
  have c1 : w1.cell? ⟨gr, 1, none⟩ = some (.int .i64 (madeC zs).d) := hP.blk.1.cell 1
  have c2 : w1.cell? ⟨gr, 2, none⟩ = some (.map (some cm)) := hP.blk.1.cell 2
  have c3 : w1.cell? ⟨gr, 3, none⟩ = some (.int .i64 (madeC zs).q) := hP.blk.1.cell 3
  have c4 : w1.cell? ⟨gr, 4, none⟩ = some (.int .i64 (madeC zs).at') := hP.blk.1.cell 4
  have c5 : w1.cell? ⟨gr, 5, none⟩ = some (.int .i64 (madeC zs).ba) := hP.blk.1.cell 5
  have c6 : w1.cell? ⟨gr, 6, none⟩ = some (.int .i64 (madeC zs).ca) := hP.blk.1.cell 6
  have c7 : w1.cell? ⟨gr, 7, none⟩ = some (.int .i64 (madeC zs).ti) := hP.blk.1.cell 7
  have c8 : w1.cell? ⟨gr, 8, none⟩ = some (.int .i64 (madeC zs).wi) := hP.blk.1.cell 8
  have c9 : w1.cell? ⟨gr, 9, none⟩ = some (.int .i64 (madeC zs).le) := hP.blk.1.cell 9
  have c10 : w1.cell? ⟨gr, 10, none⟩ = some (.float .f64 (madeC zs).th) := hP.blk.1.cell 10
  have c11 : w1.cell? ⟨gr, 11, none⟩ = some (.int .i64 (madeC zs).op) := hP.blk.1.cell 11
  have HKp : Hid (∀ W, Below w1.heap.size w1 W → Blk W gr (runCells g cm (madeC zs) fv wv R) 59) := fun W hW => hP.blk.1.below hW hP.blk.1.lt
  have HLog := hide (fun W (hW : Below w1.heap.size w1 W) => log_any L 1 g M W (hK.ag.keep (Step.of_below (p := fun _ => False) hW) (fun _ h => h)))
  have HOp : Hid (∀ W, Below w1.heap.size w1 W → Calls Tryz.prog 26 #[(madeC zs).val (some cm), encStr M.log] W fun e w' => ∃ v x, e = .returned (.tuple #[v, x]) ∧ ROpW 3 W M v x w') := fun W hW => by
    have hb := hK.rb.step (Step.of_below (p := ofR) (L := L) hW)
    obtain ⟨n, hn, ho, _⟩ := hb.cm
    exact ropenW A 3 W cm zs N M HN.out (HS.out.below hb.b) ⟨n, hn, ho⟩ hK.linv hK.c hK.D hK.ns (by have := hK.lg; have := hK.n100; have := hK.n; have := hK.rw'.len; omega)
  have HK := hide hK
  have HLn := hide hLn
  have HPv := hide hP
  generalize hcc : madeC zs = cc at c1 c2 c3 c4 c5 c6 c7 c8 c9 c10 c11 HOp HKp
  have Hcc := hide hcc
  clear hK hP hLn hcc
  go_wp2_with fail
  go_cut [6, 7] (fun s6 s7 wx => ROpW 3 w1 M s6 s7 wx)
  case first =>
    go_region_held3 (fun w' => w'.cell? ⟨gr, 0, none⟩ = some (.pointer (some ⟨g, 0, none⟩)) ∧ w'.cell? ⟨gr, 1, none⟩ = some (.int .i64 cc.d) ∧ w'.cell? ⟨gr, 2, none⟩ = some (.map (some cm)) ∧ w'.cell? ⟨gr, 3, none⟩ = some (.int .i64 cc.q) ∧ w'.cell? ⟨gr, 4, none⟩ = some (.int .i64 cc.at') ∧ w'.cell? ⟨gr, 5, none⟩ = some (.int .i64 cc.ba) ∧ w'.cell? ⟨gr, 6, none⟩ = some (.int .i64 cc.ca) ∧ w'.cell? ⟨gr, 7, none⟩ = some (.int .i64 cc.ti) ∧ w'.cell? ⟨gr, 8, none⟩ = some (.int .i64 cc.wi) ∧ w'.cell? ⟨gr, 9, none⟩ = some (.int .i64 cc.le) ∧ w'.cell? ⟨gr, 10, none⟩ = some (.float .f64 cc.th) ∧ w'.cell? ⟨gr, 11, none⟩ = some (.int .i64 cc.op)) (go_keep)
      (first
        | (go_at_call 33; refine (HLog.out _ (by first | exact Below.refl _ _ | exact (Below.refl _ _).drew)).mono ?_; rintro e w2 ⟨rfl, rfl⟩)
        | (go_at_call 26; refine (HOp.out _ (by first | exact Below.refl _ _ | exact (Below.refl _ _).drew)).mono ?_; rintro e w2 ⟨v, x, rfl, hO⟩; have HO := hide hO; clear hO; have hB2 := HKp.out w2 (by obtain ⟨_, _, _, _, _, q2, _⟩ := HO.out; first | exact q2 | exact (Below.refl w1.heap.size w1).drew.trans q2); have z0 := hB2.cell 0; have z1 := hB2.cell 1; have z2 := hB2.cell 2; have z3 := hB2.cell 3; have z4 := hB2.cell 4; have z5 := hB2.cell 5; have z6 := hB2.cell 6; have z7 := hB2.cell 7; have z8 := hB2.cell 8; have z9 := hB2.cell 9; have z10 := hB2.cell 10; have z11 := hB2.cell 11; simp [runCells] at z0 z1 z2 z3 z4 z5 z6 z7 z8 z9 z10 z11; clear hB2))
    all_goals
      go_wp2_with fail
      go_meet
      obtain ⟨g', L', e1, e2, q1, q2, q3⟩ := HO.out
      first
        | exact ⟨g', L', e1, e2, q1, q2, q3⟩
        | exact ⟨g', L', e1, e2, q1, (Below.refl w1.heap.size w1).drew.trans q2, q3⟩
  case rest =>
    obtain ⟨gx, L1, rfl, rfl, hX1, hb1, hl1⟩ := hcut
    have s1 : Step (fun _ => False) L w1 (joinLabs L L1 w1.heap.size) wc := join_step L L1 hb1
    have hX2 := join_new (L := L) hX1 hl1
    have hA2 := HK.out.ag.keep s1 (fun _ h => h)
    have hP2 := HPv.out.keep s1 (fun _ h => h)
    have hB2 := HK.out.rb.step (s1.mono (fun _ h => h.elim))
    generalize joinLabs L L1 w1.heap.size = L2 at *
    have d0 : wc.cell? ⟨gr, 0, none⟩ = some (.pointer (some ⟨g, 0, none⟩)) := hP2.blk.1.cell 0
    have HCm := hide (compact_any L2 1 g t M wc hA2 HK.out.inv)
    have HX2 := hide hX2
    have HP2 := hide hP2
    have HB2 := hide hB2
    clear s1 hX1 hX2 hA2 hP2 hB2 hb1 hl1 c0 c1 c2 c3 c4 c5 c6 c7 c8 c9 c10 c11 HOp HLog HKp HPv
    go_wp2_with fail
    refine HCm.out.mono ?_
    rintro e w3 ⟨rfl, L3, hA3, hS3⟩
    have hP3 := HP2.out.keep hS3 (fun q => not_ofP (by decide) q)
    have HX3 := hide (HX2.out.keep hS3 (fun q => not_ofP (by decide) q))
    have HB3 := hide (HB2.out.step (step_r1 hS3))
    have d0 : w3.cell? ⟨gr, 0, none⟩ = some (.pointer (some ⟨g, 0, none⟩)) := hP3.blk.1.cell 0
    have HLog3 := hide (log_any L3 1 g M.compacted w3 hA3)
    have HP3 := hide hP3
    clear hA3 hP3 hS3 HCm HX2 HP2 HB2
    go_wp2_with fail
    refine HLog3.out.mono ?_
    rintro e w4 ⟨rfl, rfl⟩
    have c1 : w4.cell? ⟨gr, 1, none⟩ = some (.int .i64 cc.d) := by rw [← Hcc.out]; exact HP3.out.blk.1.cell 1
    have c2 : w4.cell? ⟨gr, 2, none⟩ = some (.map (some cm)) := HP3.out.blk.1.cell 2
    have c3 : w4.cell? ⟨gr, 3, none⟩ = some (.int .i64 cc.q) := by rw [← Hcc.out]; exact HP3.out.blk.1.cell 3
    have c4 : w4.cell? ⟨gr, 4, none⟩ = some (.int .i64 cc.at') := by rw [← Hcc.out]; exact HP3.out.blk.1.cell 4
    have c5 : w4.cell? ⟨gr, 5, none⟩ = some (.int .i64 cc.ba) := by rw [← Hcc.out]; exact HP3.out.blk.1.cell 5
    have c6 : w4.cell? ⟨gr, 6, none⟩ = some (.int .i64 cc.ca) := by rw [← Hcc.out]; exact HP3.out.blk.1.cell 6
    have c7 : w4.cell? ⟨gr, 7, none⟩ = some (.int .i64 cc.ti) := by rw [← Hcc.out]; exact HP3.out.blk.1.cell 7
    have c8 : w4.cell? ⟨gr, 8, none⟩ = some (.int .i64 cc.wi) := by rw [← Hcc.out]; exact HP3.out.blk.1.cell 8
    have c9 : w4.cell? ⟨gr, 9, none⟩ = some (.int .i64 cc.le) := by rw [← Hcc.out]; exact HP3.out.blk.1.cell 9
    have c10 : w4.cell? ⟨gr, 10, none⟩ = some (.float .f64 cc.th) := by rw [← Hcc.out]; exact HP3.out.blk.1.cell 10
    have c11 : w4.cell? ⟨gr, 11, none⟩ = some (.int .i64 cc.op) := by rw [← Hcc.out]; exact HP3.out.blk.1.cell 11
    have hbl : M.bs.length ≤ 100 := by have := HK.out.n100; have := HK.out.n; have := HK.out.rw'.len; omega
    have HOp : Hid (Calls Tryz.prog 26 #[cc.val (some cm), encStr M.compacted.log] w4 fun e w' => ∃ v x, e = .returned (.tuple #[v, x]) ∧ ROpW 5 w4 M.compacted v x w') := by
      obtain ⟨n, hn, ho, _⟩ := HB3.out.cm
      rw [← Hcc.out]
      exact ropenW A 5 w4 cm zs N M.compacted HN.out (HS.out.below HB3.out.b) ⟨n, hn, ho⟩ (HK.out.linv.compacted HK.out.inv HK.out.ids hbl) HK.out.c HK.out.D HK.out.ns (by have := HK.out.inv.compacted_len; show (recB 61 M.way).length ≤ _; omega)
    clear d0 HLog3
    go_wp2_with fail
    refine HOp.out.mono ?_
    rintro e w5 ⟨v5, x5, rfl, gy, L5, rfl, rfl, hY1, hb5, hl5⟩
    have s5 : Step (fun _ => False) L3 w4 (joinLabs L3 L5 w4.heap.size) w5 := join_step L3 L5 hb5
    have hB5 := HB3.out.step (s5.mono (fun _ h => h.elim))
    have hSt : AStart w w5 (joinLabs L3 L5 w4.heap.size) gr g gx gy cm zs R M.crashed M.compacted.crashed (t + 200) := by
      refine ⟨⟨⟨_, _, HP3.out.keep s5 (fun _ h => h)⟩, HX3.out.keep s5 (fun _ h => h), join_new hY1 hl5, hB5.lo, hB5.b, HK.out.inv.crashed.more (by omega), HK.out.inv.compacted.crashed, rfl, GInv.crashed HK.out.c, HK.out.rw'.len.symm, by rw [← HK.out.n]; exact HK.out.n100⟩, HK.out.bs, HK.out.ids, fun d o ho => ?_, HK.out.inv.short_len⟩
      rw [(List.mem_replicate.1 (List.mem_of_getElem? ho)).2]
    have hT : t + 200 ≤ 3600000000203 := by omega
    have hYl : M.compacted.crashed.log = M.compacted.log := rfl
    generalize joinLabs L3 L5 w4.heap.size = L6 at *
    generalize hX : M.crashed = X at *
    generalize hY : M.compacted.crashed = Y at *
    generalize hsl : M.compacted.log = sl at *
    generalize hT' : t + 200 = T at *
    have hshort : sl.length ≤ 16 + mostOf X.bs := by rw [← hYl]; exact hSt.short
    have HSt := hide hSt
    have Hsh := hide hshort
    clear s5 hB5 hSt hY1 hb5 hl5 c1 c2 c3 c4 c5 c6 c7 c8 c9 c10 c11 HOp HP3 HX3 HB3 HK HLn Hcc hYl hX hY hsl hT' hshort ht2
    obtain ⟨n, hn⟩ : ∃ n, R.fs.length = n := ⟨_, rfl⟩
    have hn100 : n ≤ 100 := by rw [← hn]; exact HSt.out.a.f100
    have Hn := hide hn
    clear hn hbl
    go_wp2_with fail
    go_loopw [11, 12] (fun m i wr => ∃ k : Nat, k ≤ n ∧ m = .int .i64 ((16 + mostOf (X.bs.take k) : Nat)) ∧ i = .int .i64 k ∧ Below w5.heap.size w5 wr) (fun _ i _ => n - (intOf i).toNat)
    case atStart => exact ⟨0, Nat.zero_le _, rfl, rfl, Below.refl _ _⟩
    case round =>
      obtain ⟨k, hk, rfl, rfl, hb⟩ := hrel
      have hSk := HSt.out.below hb
      obtain ⟨fv, wv, hP⟩ := hSk.a.run
      obtain ⟨fa, fk, rfl, _⟩ := hP.fa.shape
      have c12 : wr.cell? ⟨gr, 12, none⟩ = some (.slice fa n fk) := by have := hP.blk.1.cell 12; rw [← Hn.out]; exact this
      by_cases hlt : k < n
      · have hltI : (k : Int) < (n : Int) := by omega
        obtain ⟨f, hf⟩ : ∃ f, R.fs[k]? = some f := ⟨_, List.getElem?_eq_getElem (by rw [Hn.out]; exact hlt)⟩
        obtain ⟨gf, fk', e, _, hcf, _⟩ := hP.fact hf
        rw [Hn.out] at e
        simp only [Value.slice.injEq] at e
        obtain ⟨rfl, _, rfl⟩ := e
        have hfb := map_at hSk.bs hf
        have hm1 : mostOf (X.bs.take (k + 1)) = mostOf (X.bs.take k) + (16 + f.b.id.length + f.b.ten.length + f.b.body.length) := by
          unfold mostOf
          rw [List.take_add_one, hfb, List.map_append, List.sum_append]
          simp
        obtain ⟨_, _, e3, _, e5, e6, _⟩ := hSk.a.ix.each f.b (List.mem_of_getElem? hfb)
        have e7 := (hSk.a.ix.sl _ e3).2
        have hml : mostOf (X.bs.take k) ≤ 200 * k := most_le hSk.a.ix k
        have HRg : Hid (wr.rangeAt gf (k * 8) [.int .i64 f.b.dst, encStr f.b.ten, encStr f.b.id, encStr f.b.body]) := fun j v hv => by
          have hj : j < 4 := (List.getElem?_eq_some_iff.1 hv).1
          refine hcf j v ?_
          rcases (by omega : j = 0 ∨ j = 1 ∨ j = 2 ∨ j = 3) with rfl | rfl | rfl | rfl <;> exact hv
        obtain ⟨m0, hm0⟩ : ∃ m0, mostOf (X.bs.take k) = m0 := ⟨_, rfl⟩
        rw [hm0] at hm1 hml ⊢
        have Hm1 := hide hm1
        obtain ⟨⟨fd, ften, fid, fbo, fst', ffl⟩, faf, fsn⟩ := f
        simp only at e5 e6 e7 hm1 Hm1 HRg
        have q1 : IntKind.i64.wrap (((16 + m0 : Nat) : Int) + 16) = ((16 + m0 : Nat) : Int) + 16 := IntWalk.i64_in _ (by omega)
        have q2 : IntKind.i64.wrap (((16 + m0 : Nat) : Int) + 16 + (fid.length : Int)) = ((16 + m0 : Nat) : Int) + 16 + (fid.length : Int) := IntWalk.i64_in _ (by omega)
        have q3 : IntKind.i64.wrap (((16 + m0 : Nat) : Int) + 16 + (fid.length : Int) + (ften.length : Int)) = ((16 + m0 : Nat) : Int) + 16 + (fid.length : Int) + (ften.length : Int) := IntWalk.i64_in _ (by omega)
        have q4 : IntKind.i64.wrap (((16 + m0 : Nat) : Int) + 16 + (fid.length : Int) + (ften.length : Int) + (fbo.length : Int)) = ((16 + m0 : Nat) : Int) + 16 + (fid.length : Int) + (ften.length : Int) + (fbo.length : Int) := IntWalk.i64_in _ (by omega)
        have Hb := hide hb
        clear hSk hP hcf hf hfb hm1 hb e3 e5 e6 e7
        generalize hmi : ((16 + m0 : Nat) : Int) = mi at *
        have Hmi := hide hmi
        go_wp2_with (first
          | (refine wpList_load_mid rfl 45 _ rfl gf (k * 8) rfl [.int .i64 fd, encStr ften, encStr fid, encStr fbo] _ HRg.out Tryz.underlying45 rfl infoBatch1 ?_)
          | fail)
        go_roundw
        case rel => exact ⟨k + 1, by omega, by rw [Hm1.out]; congr 1; have := Hmi.out; omega, by go_num, Hb.out.alloc Hb.out.size _⟩
        case measure => simp [intOf]; omega
      · obtain rfl : n = k := by omega
        have hltI : ¬ ((n : Int) < (n : Int)) := by omega
        have hgt : ¬ (((16 + mostOf (X.bs.take n) : Nat) : Int) < (sl.length : Int)) := by
          have h1 := Hsh.out
          rw [List.take_of_length_le (by rw [HSt.out.a.bs, Hn.out]; exact Nat.le_refl _)]
          omega
        have hgtd : decide (((16 + mostOf (X.bs.take n) : Nat) : Int) < (sl.length : Int)) = false := decide_eq_false hgt
        have HS6 := hide hSk
        generalize hmi : ((16 + mostOf (X.bs.take n) : Nat) : Int) = mi at *
        clear hSk hP hb HSt Hsh hmi
        go_wp2_with fail
        generalize hw6 : wr = w6 at *
        clear c12 hgt hgtd
        go_loopw [14] (fun i wr => ∃ k : Nat, k ≤ n ∧ i = .int .i64 k ∧ Below w6.heap.size w6 wr) (fun i _ => n - (intOf i).toNat)
        case atStart => exact ⟨0, Nat.zero_le _, rfl, hw6 ▸ Below.refl _ _⟩
        case round =>
          obtain ⟨k, hk, rfl, hb⟩ := hrel
          have hSk := HS6.out.below hb
          obtain ⟨fv, wv, hP⟩ := hSk.a.run
          obtain ⟨fa, fk, rfl, _⟩ := hP.fa.shape
          have c12 : wr.cell? ⟨gr, 12, none⟩ = some (.slice fa n fk) := by have := hP.blk.1.cell 12; rw [← Hn.out]; exact this
          by_cases hlt : k < n
          · have hltI : (k : Int) < (n : Int) := by omega
            obtain ⟨f, hf⟩ : ∃ f, R.fs[k]? = some f := ⟨_, List.getElem?_eq_getElem (by rw [Hn.out]; exact hlt)⟩
            have hXb := map_at hSk.bs hf
            have hYb : Y.bs[k]? = some f.b := by rw [hSk.a.same.1]; exact hXb
            have HSx : Hid (∀ W, Below wr.heap.size wr W → Calls Tryz.prog 34 #[.pointer (some ⟨gx, 0, none⟩), encStr f.b.id] W fun e w' => e = .returned (.tuple #[.agg #[.int .i64 f.b.st, .int .i64 f.b.fl], .nilIface]) ∧ Below W.heap.size W w') := fun W hW => status_some L6 3 gx X f.b.id k f.b W (hSk.below hW).a.ax hSk.a.ix.b120 (ids_find hSk.ids (by rw [hSk.a.bs]; have := hSk.a.f100; omega) hXb) hXb
            have HSy : Hid (∀ W, Below wr.heap.size wr W → Calls Tryz.prog 34 #[.pointer (some ⟨gy, 0, none⟩), encStr f.b.id] W fun e w' => e = .returned (.tuple #[.agg #[.int .i64 f.b.st, .int .i64 f.b.fl], .nilIface]) ∧ Below W.heap.size W w') := fun W hW => status_some L6 5 gy Y f.b.id k f.b W (hSk.below hW).a.ay hSk.a.iy.b120 (ids_find (fun i b hb => hSk.ids i b (by rw [← hSk.a.same.1]; exact hb)) (by rw [hSk.a.same.1, hSk.a.bs]; have := hSk.a.f100; omega) hYb) hYb
            obtain ⟨gf, fk', e, _, hcf, _⟩ := hP.fact hf
            rw [Hn.out] at e
            simp only [Value.slice.injEq] at e
            obtain ⟨rfl, _, rfl⟩ := e
            have HCl : Hid (∀ W, Below wr.heap.size wr W → W.cell? ⟨gr, 12, none⟩ = some (.slice (some ⟨gf, 0, none⟩) n fk) ∧ W.cell? ⟨gf, k * 8 + 2, none⟩ = some (encStr f.b.id) ∧ W.cell? ⟨gf, k * 8 + 4, none⟩ = some (.int .i64 f.b.st) ∧ W.cell? ⟨gf, k * 8 + 5, none⟩ = some (.int .i64 f.b.fl)) := fun W hW => by
              have hP' := hP.keep (Step.of_below (p := fun _ => False) hW) (fun _ h => h)
              obtain ⟨gf', fk', e, _, hcf, _⟩ := hP'.fact hf
              rw [Hn.out] at e
              simp only [Value.slice.injEq, Option.some.injEq, Addr.mk.injEq, and_true] at e
              obtain ⟨rfl, _, _⟩ := e
              have q := hP'.blk.1.cell 12
              refine ⟨?_, hcf 2 _ rfl, hcf 4 _ rfl, hcf 5 _ rfl⟩
              rw [← Hn.out]
              exact q
            obtain ⟨⟨fd, ften, fid, fbo, fst', ffl⟩, faf, fsn⟩ := f
            simp only at HSx HSy HCl
            obtain ⟨_, c2, _, _⟩ := HCl.out wr (Below.refl _ _)
            have Hb := hide hb
            clear hSk hP hcf hf hXb hYb hb
            go_wp2_with fail
            refine (HSx.out _ (Below.refl _ _)).mono ?_
            rintro e wA ⟨rfl, hbA⟩
            have HBA := hide hbA
            have kA1 : ∀ o, (wA.alloc o).cell? ⟨gr, 12, none⟩ = some (.slice (some ⟨gf, 0, none⟩) n fk) := fun o => (HCl.out _ (below_alloc HBA.out o)).1
            have kA2 : ∀ o, (wA.alloc o).cell? ⟨gf, k * 8 + 2, none⟩ = some (encStr fid) := fun o => (HCl.out _ (below_alloc HBA.out o)).2.1
            clear hbA c12 c2 HSx
            go_wp2_with fail
            refine (HSy.out _ (below_alloc HBA.out _)).mono ?_
            rintro e wB ⟨rfl, hbB⟩
            have HBB : Hid (Below wr.heap.size wr wB) := bl_trans (below_alloc HBA.out _) hbB
            have hAB : Blk wB wA.heap.size #[.int .i64 fst', .int .i64 ffl] 82 := (Blk.new wA _ _).below hbB (Blk.new wA _ _).lt
            have HAB := hide hAB
            clear hbB hAB kA1 kA2 HSy
            go_wp2_with fail
            generalize hV : World.alloc wB _ = V
            have hbV : Below wr.heap.size wr V := by rw [← hV]; exact below_alloc HBB.out _
            have hBV : Blk V wB.heap.size #[.int .i64 fst', .int .i64 ffl] 82 := by rw [← hV]; exact Blk.new wB _ _
            have hAV : Blk V wA.heap.size #[.int .i64 fst', .int .i64 ffl] 82 := by rw [← hV]; exact HAB.out.alloc _
            obtain ⟨v12, _, v4, v5⟩ := HCl.out V hbV
            have a0 : V.cell? ⟨wA.heap.size, 0, none⟩ = some (.int .i64 fst') := hAV.cell 0
            have a1 : V.cell? ⟨wA.heap.size, 1, none⟩ = some (.int .i64 ffl) := hAV.cell 1
            have b0 : V.cell? ⟨wB.heap.size, 0, none⟩ = some (.int .i64 fst') := hBV.cell 0
            have b1 : V.cell? ⟨wB.heap.size, 1, none⟩ = some (.int .i64 ffl) := hBV.cell 1
            have HbV := hide (Hb.out.trans (hbV.mono Hb.out.size))
            clear hV hbV hBV hAV HCl HBA HBB HAB
            go_quiet (fail)
            go_wp2_with fail
            go_roundw
            case rel => exact ⟨k + 1, by omega, by go_num, HbV.out.trans ((below_drewN' V _).mono HbV.out.size)⟩
            case measure => simp [intOf]; omega
          · obtain rfl : n = k := by omega
            have hltI : ¬ ((n : Int) < (n : Int)) := by omega
            have HDx := hide (adead hSk.a.ax hSk.a.ix)
            have HDy : Hid (∀ W, Below wr.heap.size wr W → Calls Tryz.prog 35 #[.pointer (some ⟨gy, 0, none⟩)] W fun e w' => ∃ gd, e = .returned (.slice (some ⟨gd, 0, none⟩) X.ids.length X.ids.length) ∧ (∀ (i : Nat) (x : List UInt8), X.ids[i]? = some x → w'.cell? ⟨gd, i, none⟩ = some (encStr x)) ∧ gd < w'.heap.size ∧ Below W.heap.size W w') := fun W hW => by
              have q := adead (hSk.below hW).a.ay hSk.a.iy
              rw [hSk.a.ids_eq] at q
              exact q
            have HS7 := hide hSk
            obtain ⟨nd, hnd⟩ : ∃ nd, X.ids.length = nd := ⟨_, rfl⟩
            have Hnd := hide hnd
            have hnd120 : nd ≤ 120 := by
              have h1 := hSk.a.ix.dead_le
              have h2 : X.ids.length = X.dead.length := by simp [Ag.ids]
              omega
            rw [hnd] at HDx HDy
            clear hSk hP hb HS6 hnd
            go_wp2_with fail
            refine HDx.out.mono ?_
            rintro e wA ⟨gd, rfl, hcd, hgd, hbA⟩
            have Hcd := hide hcd
            have HbA := hide hbA
            clear hcd hbA HDx c12
            go_wp2_with fail
            refine (HDy.out _ HbA.out).mono ?_
            rintro e wB ⟨gk, rfl, hck, hgk, hbB⟩
            have Hck := hide hck
            have HcdB : Hid (∀ (i : Nat) (x : List UInt8), X.ids[i]? = some x → wB.cell? ⟨gd, i, none⟩ = some (encStr x)) := fun i x hx => (hbB.cell (p := ⟨gd, i, none⟩) hgd).trans (Hcd.out i x hx)
            have hgdB : gd < wB.heap.size := Nat.lt_of_lt_of_le hgd hbB.size
            have HS8 := hide (HS7.out.below (bl_trans HbA.out hbB))
            clear hck hbB HDy HbA Hcd HS7 hgd
            go_wp2_with fail
            generalize hwB : wB = w8 at *
            go_loopw [21] (fun i wr => ∃ k : Nat, k ≤ nd ∧ i = .int .i64 k ∧ Below w8.heap.size w8 wr) (fun i _ => nd - (intOf i).toNat)
            case atStart => exact ⟨0, Nat.zero_le _, rfl, Below.refl _ _⟩
            case round =>
              obtain ⟨k, hk, rfl, hb⟩ := hrel
              by_cases hlt : k < nd
              · have hltI2 : (k : Int) < (nd : Int) := by omega
                obtain ⟨x, hx⟩ : ∃ x, X.ids[k]? = some x := ⟨_, List.getElem?_eq_getElem (by rw [Hnd.out]; exact hlt)⟩
                have e1 : wr.cell? ⟨gd, k, none⟩ = some (encStr x) := (hb.cell (p := ⟨gd, k, none⟩) hgdB).trans (HcdB.out k x hx)
                have e2 : wr.cell? ⟨gk, k, none⟩ = some (encStr x) := (hb.cell (p := ⟨gk, k, none⟩) hgk).trans (Hck.out k x hx)
                have Hb := hide hb
                clear hb hx
                go_wp2_with fail
                go_quiet (fail)
                go_wp2_with fail
                go_roundw
                case rel => exact ⟨k + 1, by omega, by go_num, Hb.out.trans ((below_drewN' wr _).mono Hb.out.size)⟩
                case measure => simp [intOf]; omega
              · obtain rfl : nd = k := by omega
                have hltI2 : ¬ ((nd : Int) < (nd : Int)) := by omega
                have HS9 := hide (HS8.out.below hb)
                clear hb HS8 HcdB Hck hgdB hgk
                go_wp2_with fail
                go_loopw [22] (fun i wr => ∃ (k t : Nat) (L : Labs) (X Y : Ag), k ≤ n + 1 ∧ i = .int .i64 k ∧ t + 6 * (n + 1 - k) ≤ 3700000000000 ∧ AB w wr L gr g gx gy cm zs R X Y t (n + 1 - k)) (fun i _ => n + 1 - (intOf i).toNat)
                case atStart =>
                  refine ⟨0, T, L6, X, Y, Nat.zero_le _, rfl, by omega, HS9.out.a, HS9.out.idle, fun d o _ => ?_⟩
                  have h1 := pcount_le X.bs d
                  have h2 : X.bs.countP (fun b => decide (b.st = 1)) ≤ X.bs.length := List.countP_le_length
                  have h3 := HS9.out.a.bs
                  have h4 := Hn.out
                  omega
                case round =>
                  clear HS9
                  obtain ⟨k, t, L, X, Y, hk, rfl, ht, hAB⟩ := hrel
                  obtain ⟨fv, wv, hP⟩ := hAB.a.run
                  obtain ⟨fa, fk, rfl, _⟩ := hP.fa.shape
                  have c12 : wr.cell? ⟨gr, 12, none⟩ = some (.slice fa n fk) := by have := hP.blk.1.cell 12; rw [← Hn.out]; exact this
                  clear hP
                  by_cases hle : k ≤ n
                  · have hleI : (k : Int) ≤ (n : Int) := by omega
                    obtain ⟨m, hm⟩ : ∃ m, n + 1 - k = m + 1 := ⟨n - k, by omega⟩
                    rw [hm] at hAB ht
                    have hTw := hAB.two Hdn.out hdn4 (by omega)
                    have HTx := hide (atick L 3 7 gx t X 1 wr hAB.a.ax hAB.a.ix (by omega) (by omega) (by omega))
                    have HTy : Hid (∀ L1 W, Step (ofP 3) L wr L1 W → Calls Tryz.prog 30 #[.pointer (some ⟨gy, 0, none⟩), .int .i64 1, .int .i64 0] W fun e w' => ∃ vb vk L2, e = .returned (.tuple #[.slice vb (X.ticked 1 0).2.length vk, .nilIface]) ∧ RowAt w' L2 (some (9, .ag)) 68 4 (.slice vb (X.ticked 1 0).2.length vk) (X.ticked 1 0).2.length ((X.ticked 1 0).2.flatMap Sd.cells) ∧ AgentAt w' L2 5 gy (Y.ticked 1 0).1 ∧ Step (ofP 5) L1 W L2 w') := fun L1 W hW => by
                      have q := atick L1 5 9 gy t Y 1 W (hAB.a.ay.keep hW (fun q => not_ofP (by decide) q)) hAB.a.iy (by omega) (by omega) (by omega)
                      rw [hTw.y] at q
                      exact q
                    have HAB := hide hAB
                    have HTw := hide hTw
                    obtain ⟨sl2, hsl2⟩ : ∃ sl2, (X.ticked 1 0).2.length = sl2 := ⟨_, rfl⟩
                    have hsl4 : sl2 ≤ 4 := by rw [← hsl2]; exact hTw.few
                    have Hsl2 := hide hsl2
                    rw [hsl2] at HTx HTy
                    clear hAB hTw hsl2
                    go_wp2_with fail
                    refine HTx.out.mono ?_
                    rintro e w2 ⟨va, vk, L1, rfl, hr1, hx1, s1⟩
                    have Hr1 := hide hr1
                    have Hx1 := hide hx1
                    have Hs1 := hide s1
                    clear hr1 hx1 s1 HTx c12
                    go_wp2_with fail
                    refine (HTy.out _ _ Hs1.out).mono ?_
                    rintro e w3 ⟨vb, vk2, L2, rfl, hr2, hy2, s2⟩
                    have HIn : Hid (AIn w w3 L2 gr g gx gy cm zs R (X.ticked 1 0).1 (Y.ticked 1 0).1 (t + 1) m (X.ticked 1 0).2 (.slice va sl2 vk) (.slice vb sl2 vk2) 0) := HAB.out.ticked (by omega) HTw.out Hx1.out (by rw [Hsl2.out]; exact Hr1.out) Hs1.out hy2 (by rw [Hsl2.out]; exact hr2) s2
                    have Hnod := hide HTw.out.go.nod
                    have Hall := hide HTw.out.all
                    generalize hSS : (X.ticked 1 0).2 = S at *
                    clear hr2 hy2 s2 HTy Hr1 Hx1 Hs1 HAB HTw hSS
                    go_wp2_with fail
                    go_loopw [27] (fun i wr => ∃ (j : Nat) (L : Labs) (X Y : Ag), j ≤ sl2 ∧ i = .int .i64 j ∧ AIn w wr L gr g gx gy cm zs R X Y (t + 1 + j) m S (.slice va sl2 vk) (.slice vb sl2 vk2) j) (fun i _ => sl2 - (intOf i).toNat)
                    case atStart => exact ⟨0, _, _, _, Nat.zero_le _, rfl, HIn.out⟩
                    case round =>
                      clear HIn
                      obtain ⟨j, L, X, Y, hj, rfl, hI⟩ := hrel
                      by_cases hjl : j < sl2
                      · have hjI : (j : Int) < (sl2 : Int) := by omega
                        obtain ⟨s, hs⟩ : ∃ s, S[j]? = some s := ⟨_, List.getElem?_eq_getElem (by rw [Hsl2.out]; exact hjl)⟩
                        obtain ⟨d, o, e, ho, hyo, hw, hsn⟩ := hI.meets Hdn.out Hall.out hs
                        have hra := hI.ra
                        have hrb := hI.rb
                        rw [Hsl2.out] at hra hrb
                        obtain ⟨ga, rfl, _⟩ := hra.head (by omega)
                        obtain ⟨gb, rfl, _⟩ := hrb.head (by omega)
                        have HRx : Hid (∀ W, Below wr.heap.size wr W → Calls Tryz.prog 31 #[.pointer (some ⟨gx, 0, none⟩), .int .i64 s.d, .int .i64 s.try', .bool true, .int .i64 0] W fun e w' => e = .returned .nilIface ∧ ∃ L1, AgentAt w' L1 3 gx (X.replied d true 0) ∧ Step (ofP 3) L wr L1 w') := fun W hW => by
                          rw [e, ← hsn]
                          refine (reply_big L 3 gx (t + 1 + j) d X o true 0 W (hI.below hW).a.ax hI.a.ix (by omega) (Int.le_refl _) ho hw).mono ?_
                          rintro e w' ⟨rfl, L1, q1, q2⟩
                          exact ⟨rfl, L1, q1, (Step.of_below hW).trans q2⟩
                        have HRy : Hid (∀ L1 V W, Step (ofP 3) L wr L1 V → Below V.heap.size V W → Calls Tryz.prog 31 #[.pointer (some ⟨gy, 0, none⟩), .int .i64 s.d, .int .i64 s.try', .bool true, .int .i64 0] W fun e w' => e = .returned .nilIface ∧ ∃ L2, AgentAt w' L2 5 gy (Y.replied d true 0) ∧ Step (ofP 5) L1 V L2 w') := fun L1 V W hV hW => by
                          rw [e, ← hsn]
                          refine (reply_big L1 5 gy (t + 1 + j) d Y o true 0 W ((hI.a.ay.keep hV (fun q => not_ofP (by decide) q)).keep (Step.of_below (p := fun _ => False) hW) (fun _ h => h)) hI.a.iy (by omega) (Int.le_refl _) hyo hw).mono ?_
                          rintro e w' ⟨rfl, L2, q1, q2⟩
                          exact ⟨rfl, L2, q1, (Step.of_below hW).trans q2⟩
                        have HCa : Hid (∀ L1 W, Step (ofP 3) L wr L1 W → W.cell? ⟨ga, j * 4, none⟩ = some (.int .i64 s.d) ∧ W.cell? ⟨ga, j * 4 + 1, none⟩ = some (.int .i64 s.try') ∧ W.cell? ⟨ga, j * 4 + 2, none⟩ = some (encStr s.id) ∧ W.cell? ⟨ga, j * 4 + 3, none⟩ = some (encStr s.body)) := fun L1 W hW => send_cells (hra.keep hW (not_ofP (by decide) _)) hs hjl
                        have HCb : Hid (∀ L1 W, Step (ofP 3) L wr L1 W → W.cell? ⟨gb, j * 4, none⟩ = some (.int .i64 s.d) ∧ W.cell? ⟨gb, j * 4 + 1, none⟩ = some (.int .i64 s.try') ∧ W.cell? ⟨gb, j * 4 + 2, none⟩ = some (encStr s.id) ∧ W.cell? ⟨gb, j * 4 + 3, none⟩ = some (encStr s.body)) := fun L1 W hW => send_cells (hrb.keep hW (not_ofP (by decide) _)) hs hjl
                        have HNx : Hid (∀ L1 L2 w1 w2, AgentAt w1 L1 3 gx (X.replied d true 0) → Step (ofP 3) L wr L1 w1 → AgentAt w2 L2 5 gy (Y.replied d true 0) → Step (ofP 5) L1 w1 L2 w2 → AIn w w2 L2 gr g gx gy cm zs R (X.replied d true 0) (Y.replied d true 0) (t + 1 + j + 1) m S (.slice (some ⟨ga, 0, none⟩) sl2 vk) (.slice (some ⟨gb, 0, none⟩) sl2 vk2) (j + 1) ∧ (w2.cell? ⟨ga, j * 4, none⟩ = some (.int .i64 s.d) ∧ w2.cell? ⟨ga, j * 4 + 1, none⟩ = some (.int .i64 s.try') ∧ w2.cell? ⟨ga, j * 4 + 2, none⟩ = some (encStr s.id) ∧ w2.cell? ⟨ga, j * 4 + 3, none⟩ = some (encStr s.body)) ∧ (w2.cell? ⟨gb, j * 4, none⟩ = some (.int .i64 s.d) ∧ w2.cell? ⟨gb, j * 4 + 1, none⟩ = some (.int .i64 s.try') ∧ w2.cell? ⟨gb, j * 4 + 2, none⟩ = some (encStr s.id) ∧ w2.cell? ⟨gb, j * 4 + 3, none⟩ = some (encStr s.body))) := fun L1 L2 w1 w2 q1 s1 q2 s2 =>
                          ⟨hI.next Hdn.out (by omega) Hnod.out hs e ho hw q1 s1 q2 s2, send_cells ((hra.keep s1 (not_ofP (by decide) _)).keep s2 (not_ofP (by decide) _)) hs hjl, send_cells ((hrb.keep s1 (not_ofP (by decide) _)).keep s2 (not_ofP (by decide) _)) hs hjl⟩
                        obtain ⟨a0, a1, _, _⟩ := HCa.out L wr (Step.refl _ _ _)
                        generalize X.replied d true 0 = X' at *
                        generalize Y.replied d true 0 = Y' at *
                        clear hI hra hrb hs e ho hyo hw hsn
                        obtain ⟨sd, st', sid, sbo⟩ := s
                        simp only at HRx HRy HCa HCb HNx a0 a1
                        go_wp2_with fail
                        go_cut [28] (fun s28 wx => s28 = .nilIface ∧ ∃ L1, AgentAt wx L1 3 gx X' ∧ Step (ofP 3) L wr L1 wx)
                        case first =>
                          go_region_held3 (fun w' => w'.cell? ⟨ga, j * 4, none⟩ = some (.int .i64 sd) ∧ w'.cell? ⟨ga, j * 4 + 1, none⟩ = some (.int .i64 st')) (go_keep)
                            (first | (go_at_call 31; refine (HRx.out _ (by first | exact Below.refl _ _ | exact (Below.refl _ _).drew)).mono ?_; rintro e w2 ⟨rfl, hT⟩; have HT := hide hT; obtain ⟨L1, hx1, s1⟩ := hT; obtain ⟨f0, f1, _, _⟩ := HCa.out L1 w2 s1; clear hx1 s1))
                          all_goals
                            go_wp2_with fail
                            go_meet
                            exact ⟨rfl, HT.out⟩
                        case rest =>
                          obtain ⟨rfl, L1, hx1, s1⟩ := hcut
                          obtain ⟨b0, b1, _, _⟩ := HCb.out L1 wc s1
                          have HNy := hide (fun L2 w2 q2 s2 => HNx.out L1 L2 wc w2 hx1 s1 q2 s2)
                          have HRy1 := hide (fun W (hW : Below wc.heap.size wc W) => HRy.out L1 wc W s1 hW)
                          clear hx1 s1 HCa HCb HNx HRx HRy a0 a1
                          go_wp2_with fail
                          go_cut [29] (fun s29 wx => s29 = .nilIface ∧ ∃ L2, AgentAt wx L2 5 gy Y' ∧ Step (ofP 5) L1 wc L2 wx)
                          case first =>
                            go_region_held3 (fun w' => w'.cell? ⟨gb, j * 4, none⟩ = some (.int .i64 sd) ∧ w'.cell? ⟨gb, j * 4 + 1, none⟩ = some (.int .i64 st')) (go_keep)
                              (first | (go_at_call 31; refine (HRy1.out _ (by first | exact Below.refl _ _ | exact (Below.refl _ _).drew)).mono ?_; rintro e w2 ⟨rfl, hT⟩; have HT := hide hT; obtain ⟨L2, hy2, s2⟩ := hT; obtain ⟨_, _, f0, f1, _, _⟩ := HNy.out L2 w2 hy2 s2; clear hy2 s2))
                            all_goals
                              go_wp2_with fail
                              go_meet
                              exact ⟨rfl, HT.out⟩
                          case rest =>
                            obtain ⟨rfl, L2, hy2, s2⟩ := hcut
                            obtain ⟨hI2, ⟨a0, a1, a2, a3⟩, ⟨b0, b1, b2, b3⟩⟩ := HNy.out L2 _ hy2 s2
                            have HI2 := hide hI2
                            clear hy2 s2 hI2 HNy HRy1
                            go_wp2_with fail
                            go_quiet (fail)
                            go_wp2_with fail
                            go_roundw
                            case rel => exact ⟨j + 1, L2, X', Y', by omega, by go_num, by rw [show t + 1 + (j + 1) = t + 1 + j + 1 from by omega]; exact HI2.out.below (below_drewN' _ _)⟩
                            case measure => simp [intOf]; omega
                      · obtain rfl : sl2 = j := by omega
                        have hjI : ¬ ((sl2 : Int) < (sl2 : Int)) := by omega
                        have HLn := hide ((by rw [← Hsl2.out] at hI; exact hI.done : AB w wr L gr g gx gy cm zs R X Y (t + 1 + S.length) m))
                        clear hI
                        go_wp2_with fail
                        go_roundw
                        case rel => exact ⟨k + 1, t + 1 + S.length, L, X, Y, by omega, by go_num, by have := Hsl2.out; omega, by rw [show n + 1 - (k + 1) = m from by omega]; exact HLn.out⟩
                        case measure => simp [intOf]; omega
                  · obtain rfl : k = n + 1 := by omega
                    have hleI : ¬ (((n + 1 : Nat) : Int) ≤ (n : Int)) := by omega
                    rw [show n + 1 - (n + 1) = 0 from by omega] at hAB
                    have hz := hAB.over Hdn.out
                    have HWx := hide (awaiting hAB.a.ax hAB.a.ix hz)
                    have HWy := hide (fun W (hW : Below wr.heap.size wr W) => awaiting (hAB.a.below hW).ay hAB.a.iy (by rw [hAB.a.same.1]; exact hz))
                    have HB := hide hAB.a.b
                    clear hAB hz
                    generalize hnI : ((n + 1 : Nat) : Int) = nI at *
                    go_wp2_with fail
                    refine HWx.out.mono ?_
                    rintro e w2 ⟨b1, rfl, hl1, hb1⟩
                    have Hl1 := hide hl1
                    have Hb1 := hide hb1
                    clear hl1 hb1 HWx c12
                    go_wp2_with fail
                    refine (HWy.out _ Hb1.out).mono ?_
                    rintro e w3 ⟨b2, rfl, hl2, hb2⟩
                    have l1 := Hl1.out w3 hb2
                    have l2 := hl2 w3 (Below.refl _ _)
                    have HB3 := hide (HB.out.trans ((bl_trans Hb1.out hb2).mono HB.out.size))
                    clear hl2 hb2 HWy Hl1 Hb1
                    go_wp2_with fail
                    go_ret
                    exact ⟨rfl, HB3.out⟩
end Go.Proofs.YtojpjaifhjigfaaGreatDoor

/- What every proof over this seat takes of the rows: the listed error variables, and a world that meets them. -/
namespace Go.Proofs.YtojpjaifhjigfaaGreatDoor
open Go.ChangeShapes Go.WideShapes Go.ChangeAt Go.WideMaps Go.WideElems Go.RowKit

theorem own : ownKnob Tryz.prog.godebug = none := by kernel_rfl
theorem cells142 : Tryz.prog.cellsOf 274 = 1 := by kernel_rfl
theorem cells9 : Tryz.prog.cellsOf 9 = 1 := by kernel_rfl
theorem star : "*" ++ "errors.errorString" = "*errors.errorString" := by decide
theorem row121 (u : TypeId) (h : Tryz.prog.typeName? 3 u = some "*errors.errorString") : u = 260 :=
  typeName_ptr_named (nm := "errors.errorString") (by rw [star]; kernel_rfl) (by kernel_rfl) (by decide) u (by rw [star]; exact h)

/-- The listed variables, as the condition has them. -/
abbrev laidAll : List (String × DataW Unit) := Rows.opensRow.laid

theorem listed : Sents.Listed Tryz.prog 71 "*errors.errorString" gl laidAll :=
  ⟨⟨_, rfl⟩, by kernel_rfl, by kernel_rfl, ⟨_, rfl⟩, by kernel_rfl, by kernel_rfl, ⟨_, rfl⟩, by kernel_rfl, by kernel_rfl, ⟨_, rfl⟩, by kernel_rfl, by kernel_rfl, ⟨_, rfl⟩, by kernel_rfl, by kernel_rfl, ⟨_, rfl⟩, by kernel_rfl, by kernel_rfl,
   ⟨_, rfl⟩, by kernel_rfl, by kernel_rfl, ⟨_, rfl⟩, by kernel_rfl, by kernel_rfl, ⟨_, rfl⟩, by kernel_rfl, by kernel_rfl, ⟨_, rfl⟩, by kernel_rfl, by kernel_rfl, ⟨_, rfl⟩, by kernel_rfl, by kernel_rfl, trivial⟩

theorem sents_of {W : World} (h : laidMetH Tryz.prog laidAll W) : ∃ A : Nat → Addr, Sents.Holds W 260 gl 11 A := by
  rw [MakeChecks.laidMetH_plain _ _ _ (by kernel_rfl)] at h
  exact Sents.of_laid Tryz.underlying71 row121 Tryz.underlying260 Tryz.underlying274 rfl rfl Tryz.underlying9 cells142 cells9 listed h

/-- The door's own heap meets the condition. -/
theorem door_met (os : Os) (args : Array Value) : laidMetH Tryz.prog laidAll ((World.doorLaid Tryz.prog 400 os).forCall (fun _ _ => 0) ⟨#[], args, []⟩).memory :=
  laidMetH_of_parts3 (fuel := 8) (laidMet_of_run' 8 (by kernel_rfl) (by kernel_rfl)) (by kernel_rfl) (by kernel_rfl)

end Go.Proofs.YtojpjaifhjigfaaGreatDoor
