/- Steps of the proof (several texts in one): AllUp, AllWalk, ProofBase. -/
import Derived.Test.YtojpjaifhjigfaaGreatDoorMAllupto37
import Derived.Test.YtojpjaifhjigfaaGreatDoorRows
import Derived.Test.YtojpjaifhjigfaaGreatDoorCards
import Derived.Test.YtojpjaifhjigfaaGreatDoorTie
import Derived.Test.YtojpjaifhjigfaaGreatDoorMAllupto03
import Derived.ProofKit
import Derived.LaidMore
import Derived.OpenShut
import Derived.Stop.Joined
import Derived.SevenTiedAt

/- conduitlaw.UpTo, up to the ninth kind. -/
namespace Go.Proofs.YtojpjaifhjigfaaGreatDoor
open Go.RowKit Go.Maps
attribute [local go_sem] run_store_float

/-- Two configurations, as an array's cells. -/
def twoCfg (c d : Cfg) (m m' : Option Nat) : List Value := (c.cells m).toList ++ (d.cells m').toList
theorem infoTwo : (Tryz.prog.info? 30).map (·.size) = some 22 := by kernel_rfl

theorem twoOne (c d : Cfg) (m m' : Option Nat) : ∀ v ∈ twoCfg c d m m', v.oneCell' = true := by
  intro v hv
  simp [twoCfg] at hv
  rcases hv with rfl | rfl | rfl | rfl | rfl | rfl | rfl | rfl | rfl | rfl | rfl | rfl | rfl | rfl | rfl | rfl | rfl | rfl | rfl | rfl | rfl | rfl <;> rfl

set_option maxRecDepth 100000 in
set_option maxHeartbeats 4000000 in
theorem upTo_any (A : Nat → Addr) (c d : Cfg) (m m' : Option Nat) (D D' : DataW Unit) (sa : Option Addr) (sk : Nat) (os : List Opn) (w : World) (hS : Sents.Holds w 260 gl 11 A) (hM : MapAt w m D) (hM' : MapAt w m' D')
    (hO : OpsAt w sa os) (hOk : ∀ o ∈ os, o.Ok) (hn : os.length ≤ 400000) :
    Calls Tryz.prog 20 #[.agg (twoCfg c d m m').toArray, .slice sa os.length sk, .int .i64 9] w fun e w' => e = .returned (.int .i64 (-1)) ∧ Below w.heap.size w w' := by
  have HS := hide hS
  have HM := hide hM
  have HM' := hide hM'
  have HO := hide hO
  have HOk := hide hOk
  generalize hN : os.length = n at *
  have HN := hide hN
  clear hS hM hM' hO hOk hN
  go_enter Tryz.func20, Tryz.ntmps20
  go_wp2_with fail
  refine (example_any _).mono ?_
  rintro e w1 ⟨g1, rfl, hE, hb1⟩
  have HKt1 : Hid (Blk w1 w.heap.size (twoCfg c d m m').toArray 30) := (Blk.new w _ _).below hb1 (by simp)
  have Hb1 : Hid (Below w.heap.size w w1) := ((Below.refl _ _).alloc (Nat.le_refl _) _).trans (hb1.mono (by simp))
  have HE := hide hE
  have hz1 : w.heap.size < w1.heap.size := HKt1.out.lt
  clear hb1 hE
  go_upto_region 3 with fail
  generalize hV2 : World.alloc (World.alloc w1 _) _ = V2
  have hKe : Blk V2 w1.heap.size (exCfg.cells none) 25 := by rw [← hV2]; exact (Blk.new w1 _ _).alloc _
  have hKw : Blk V2 (w1.heap.size + 1) (wc9 zeroCfg zeroCfg none none) 38 := by rw [← hV2]; exact Blk.made (by simp) _ _
  have hbV2 : Below w1.heap.size w1 V2 := by rw [← hV2]; exact ((Below.refl _ _).alloc (Nat.le_refl _) _).alloc (by simp) _
  have HE2 : Hid (TenAt V2 (some ⟨g1, 0, none⟩) exTs) := tenAt_below HE.out hbV2
  obtain ⟨e0, e1, e2, e3, e4, e5, e6, e7, e8, e9, e10⟩ : V2.cell? ⟨w1.heap.size, 0, none⟩ = some (.int .i64 exCfg.d) ∧ V2.cell? ⟨w1.heap.size, 1, none⟩ = some (.map (none)) ∧ V2.cell? ⟨w1.heap.size, 2, none⟩ = some (.int .i64 exCfg.q) ∧ V2.cell? ⟨w1.heap.size, 3, none⟩ = some (.int .i64 exCfg.at') ∧ V2.cell? ⟨w1.heap.size, 4, none⟩ = some (.int .i64 exCfg.ba) ∧ V2.cell? ⟨w1.heap.size, 5, none⟩ = some (.int .i64 exCfg.ca) ∧ V2.cell? ⟨w1.heap.size, 6, none⟩ = some (.int .i64 exCfg.ti) ∧ V2.cell? ⟨w1.heap.size, 7, none⟩ = some (.int .i64 exCfg.wi) ∧ V2.cell? ⟨w1.heap.size, 8, none⟩ = some (.int .i64 exCfg.le) ∧ V2.cell? ⟨w1.heap.size, 9, none⟩ = some (.float .f64 exCfg.th) ∧ V2.cell? ⟨w1.heap.size, 10, none⟩ = some (.int .i64 exCfg.op) := ⟨hKe.cell 0, hKe.cell 1, hKe.cell 2, hKe.cell 3, hKe.cell 4, hKe.cell 5, hKe.cell 6, hKe.cell 7, hKe.cell 8, hKe.cell 9, hKe.cell 10⟩
  have hV2l : w1.heap.size < V2.heap.size := hKe.lt
  have HKt2 : Hid (Blk V2 w.heap.size (twoCfg c d m m').toArray 30) := HKt1.out.below hbV2 hz1
  have HbV2 : Hid (Below w.heap.size w V2) := Hb1.out.trans (hbV2.mono (by omega))
  obtain ⟨G, hG⟩ : ∃ G, w1.heap.size + 1 = G := ⟨_, rfl⟩
  rw [hG] at hKw ⊢
  have hV2g : G < V2.heap.size := hKw.lt
  have HKw := hide hKw
  have HGe := hide hG
  have hfar := fun (W : World) (o o' : Nat) (v : Value) => cell_far W o o' v (show w1.heap.size ≠ G by omega)
  clear hV2 hKw hKe hbV2 HKt1 Hb1 HE
  go_cut [] (fun wx => ∃ b1 n1, Blk wx G (splice (wc9 zeroCfg zeroCfg none none) 0 (exCfg.cells (some b1)).toList) 38 ∧ OM wx b1 n1 (DT exTs) ∧ n1 ≤ big ∧ b1 ≠ G ∧ Below G V2 wx)
  case first =>
    go_region_held3 (fun w' => w'.cell? ⟨w1.heap.size, 0, none⟩ = some (.int .i64 exCfg.d) ∧ w'.cell? ⟨w1.heap.size, 1, none⟩ = some (.map (none)) ∧ w'.cell? ⟨w1.heap.size, 2, none⟩ = some (.int .i64 exCfg.q) ∧ w'.cell? ⟨w1.heap.size, 3, none⟩ = some (.int .i64 exCfg.at') ∧ w'.cell? ⟨w1.heap.size, 4, none⟩ = some (.int .i64 exCfg.ba) ∧ w'.cell? ⟨w1.heap.size, 5, none⟩ = some (.int .i64 exCfg.ca) ∧ w'.cell? ⟨w1.heap.size, 6, none⟩ = some (.int .i64 exCfg.ti) ∧ w'.cell? ⟨w1.heap.size, 7, none⟩ = some (.int .i64 exCfg.wi) ∧ w'.cell? ⟨w1.heap.size, 8, none⟩ = some (.int .i64 exCfg.le) ∧ w'.cell? ⟨w1.heap.size, 9, none⟩ = some (.float .f64 exCfg.th) ∧ w'.cell? ⟨w1.heap.size, 10, none⟩ = some (.int .i64 exCfg.op)) (go_keep)
      (first
        | (go_at_call 15; refine (config_ex g1 _ (tenAt_drew HE2.out)).mono ?_; rintro e w3 ⟨m1, rfl, hM1, hm1, hb3⟩; have hc3 := fun o => hb3.cell (p := ⟨w1.heap.size, o, none⟩) hV2l; have hK3 : Blk w3 G _ 38 := Blk.below (w := V2.drew) HKw.out hb3 HKw.out.lt; obtain ⟨z0, z1, z2, z3, z4, z5, z6, z7, z8, z9, z10⟩ : w3.cell? ⟨G, 0, none⟩ = some (.int .i64 zeroCfg.d) ∧ w3.cell? ⟨G, 1, none⟩ = some (.map (none)) ∧ w3.cell? ⟨G, 2, none⟩ = some (.int .i64 zeroCfg.q) ∧ w3.cell? ⟨G, 3, none⟩ = some (.int .i64 zeroCfg.at') ∧ w3.cell? ⟨G, 4, none⟩ = some (.int .i64 zeroCfg.ba) ∧ w3.cell? ⟨G, 5, none⟩ = some (.int .i64 zeroCfg.ca) ∧ w3.cell? ⟨G, 6, none⟩ = some (.int .i64 zeroCfg.ti) ∧ w3.cell? ⟨G, 7, none⟩ = some (.int .i64 zeroCfg.wi) ∧ w3.cell? ⟨G, 8, none⟩ = some (.int .i64 zeroCfg.le) ∧ w3.cell? ⟨G, 9, none⟩ = some (.float .f64 zeroCfg.th) ∧ w3.cell? ⟨G, 10, none⟩ = some (.int .i64 zeroCfg.op) := ⟨hK3.cell 0, hK3.cell 1, hK3.cell 2, hK3.cell 3, hK3.cell 4, hK3.cell 5, hK3.cell 6, hK3.cell 7, hK3.cell 8, hK3.cell 9, hK3.cell 10⟩; have hfz := fun o => hK3.frozen o; have HK3 := hide hK3; have HM1 := hide hM1; have Hm1 := hide hm1; have Hb3 := hide hb3; clear hK3 hM1 hm1 hb3))
    all_goals
      go_wp2_with fail
      go_meet
      generalize hX : (World.setCell (World.setCell (World.setCell (World.setCell (World.setCell (World.setCell (World.setCell (World.setCell (World.setCell (World.setCell (World.setCell w3 _ _) _ _) _ _) _ _) _ _) _ _) _ _) _ _) _ _) _ _) _ _) = X
      have hX' : w3.setCells G 0 (exCfg.cells m1).toList = X := hX
      clear hX
      subst hX'
      obtain ⟨b1, n1, rfl, h2, h3⟩ : ∃ b1 n1, m1 = some b1 ∧ OM w3 b1 n1 (DT exTs) ∧ n1 ≤ big := by
        rcases HM1.out with ⟨_, h⟩ | ⟨b, n, h1, h2, h3⟩
        · exact absurd ex_good.2.1.1.1 (by rw [h]; simp [Maps.size])
        · exact ⟨b, n, h1, h2, h3⟩
      have hb1 : V2.heap.size ≤ b1 := Hm1.out b1 rfl
      refine ⟨b1, n1, HK3.out.setCells _ 0, ?_, h3, by omega, ?_⟩
      · obtain ⟨es, clock, q1, q2⟩ := h2
        exact ⟨es, clock, by rw [heap_setCells _ 0 (by omega)]; exact q1, q2⟩
      · exact below_setCells (Nat.le_refl _) _ 0 ((Below.refl G V2).drew.trans (Hb3.out.mono (show G ≤ V2.heap.size by omega)))
  case rest =>
  obtain ⟨b1, n1, hKw3, hO1, hn1, hbG, hB3⟩ := hcut
  generalize hwc : wc = V3 at *
  clear hwc e0 e1 e2 e3 e4 e5 e6 e7 e8 e9 e10 hfar
  have hB : Below w.heap.size w V3 := HbV2.out.trans (hB3.mono (by omega))
  have HKt3 : Hid (Blk V3 w.heap.size (twoCfg c d m m').toArray 30) := HKt2.out.below hB3 (by omega)
  have HB := hide hB
  have HKw3 := hide hKw3
  have HO1 := hide hO1
  have hG3 : G < V3.heap.size := hKw3.lt
  clear hKw3 hO1 hB3 hB HKt2 HbV2 HKw
  go_wp2_with fail
  generalize hW0 : World.alloc V3 _ = W0
  have hKf : Blk W0 V3.heap.size (firstOps.flatMap Opn.cells).toArray 47 := by rw [← hW0]; exact Blk.new V3 _ _
  have hB0 : Below V3.heap.size V3 W0 := by rw [← hW0]; exact (Below.refl _ _).alloc (Nat.le_refl _) _
  obtain ⟨L0, hL0⟩ : ∃ L0 : Labs, L0 = fun k => if k = G then bl 2 0 else none := ⟨_, rfl⟩
  have hLG : L0 G = bl 2 0 := by rw [hL0]; simp
  have hLo : ∀ k, k ≠ G → L0 k = none := fun k hk => by rw [hL0]; exact if_neg hk
  have hlen : (exCfg.cells (some b1)).toList.length = 11 := rfl
  have hKw0 := HKw3.out.below hB0 hG3
  have hBw0 : Below w.heap.size w W0 := HB.out.trans (hB0.mono (by omega))
  have hW : WAt W0 L0 G A (splice (wc9 zeroCfg zeroCfg none none) 0 (exCfg.cells (some b1)).toList) ⟨.slice none 0 0, .slice none 0 0, .slice none 0 0, .slice none 0 0, 0, 0, 0, 0, 0, [], fun _ => Ag.new zeroCfg (.map []) [], fun _ => Rf.new zeroCfg none (.map []) [], fun _ => ⟨zeroCfg, none, .map [], .slice none 0 0, .slice none 0 0, []⟩⟩ := by
    refine ⟨⟨hKw0, hLG⟩, (splice_out _ _ _ 22 (by rw [hlen]; omega)).trans rfl, (splice_out _ _ _ 23 (by rw [hlen]; omega)).trans rfl, (splice_out _ _ _ 24 (by rw [hlen]; omega)).trans rfl, (splice_out _ _ _ 25 (by rw [hlen]; omega)).trans rfl, RowAt.nil _ _ _ _ _, fun i v hv => by simp at hv, ⟨[], RowAt.nil _ _ _ _ _, fun i v hv => by simp at hv⟩, SendsAt.nil _ _, ⟨[], RowAt.nil _ _ _ _ _, fun i v hv => by simp at hv⟩, ⟨HS.out.below hBw0, fun i hi => ?_, fun i hi => ?_⟩⟩
    · have := World.block_lt_of_cell? w _ (HS.out.cell i hi)
      exact hLo _ (by have h2 : gl.getD i 0 < w.heap.size := this; omega)
    · obtain ⟨cc, tt, hcc⟩ := HS.out.block i hi
      have := (Array.getElem?_eq_some_iff.1 hcc).1
      exact hLo _ (by omega)
  have hc0 : CfgAt W0 L0 (splice (wc9 zeroCfg zeroCfg none none) 0 (exCfg.cells (some b1)).toList) 0 exCfg (some b1) (DT exTs) := ⟨fun j v hv => splice_in _ _ _ _ _ (by show 0 + 11 ≤ 27; omega) (by simpa using hv), Or.inr ⟨b1, n1, rfl, om_below HO1.out hB0 HO1.out.lt, hn1⟩, fun b hb => by cases hb; exact hLo _ hbG⟩
  have hc1 : CfgAt W0 L0 (splice (wc9 zeroCfg zeroCfg none none) 0 (exCfg.cells (some b1)).toList) 1 zeroCfg none (.map []) := ⟨fun j v hv => (splice_out _ _ _ _ (by rw [hlen]; omega)).trans (wc9_one hv), Or.inl ⟨rfl, rfl⟩, fun b hb => by cases hb⟩
  have h26 : (splice (wc9 zeroCfg zeroCfg none none) 0 (exCfg.cells (some b1)).toList)[26]? = some (.int .i64 9) := (splice_out _ _ _ 26 (by rw [hlen]; omega)).trans rfl
  have HPl : Hid (Played W0 L0 G A exCfg zeroCfg (some b1) none (DT exTs) (.map []) 0 W0) := ⟨L0, _, _, hW, fun i hi => absurd hi (Nat.not_lt_zero _), hc0, hc1, h26, ⟨fun h => by omega, by show 0 ≤ 1 + 0; omega, rfl, by show 0 ≤ 8 * 0; omega, rfl, by show 0 ≤ 4 * 0; omega, by show 0 ≤ 2 * 0; omega, rfl⟩, Step.refl _ _ _⟩
  have HLo := hide hLo
  have HKf := hide hKf
  have HBw0 := hide hBw0
  have HKt0 : Hid (Blk W0 w.heap.size (twoCfg c d m m').toArray 30) := HKt3.out.below hB0 (by omega)
  generalize hF : V3.heap.size = F at *
  have hFG : F ≠ G := by omega
  have hWz : F < W0.heap.size := HKf.out.lt
  clear hW0 hKf hB0 hL0 hLG hLo hlen hKw0 hBw0 hW hc0 hc1 h26 hF HKt3 HKw3 HO1 HB
  go_loopw [11, 12] (fun q _ wr => ∃ t : Nat, t ≤ 4 ∧ q = .int .i64 t ∧ Played W0 L0 G A exCfg zeroCfg (some b1) none (DT exTs) (.map []) t wr) (fun q _ _ => 4 - (intOf q).toNat)
  case atStart => exact ⟨0, Nat.zero_le _, rfl, HPl.out⟩
  case round =>
    obtain ⟨t, ht, rfl, hP⟩ := hrel
    have HP := hide hP
    clear hP
    by_cases hlt : t < 4
    · have hltI : (t : Int) < 4 := by omega
      obtain ⟨o, ho⟩ : ∃ o, firstOps[t]? = some o := ⟨_, List.getElem?_eq_getElem hlt⟩
      obtain ⟨⟨L8, hs8⟩, hG8⟩ := HP.out.kept
      have hR : wr.rangeAt F (t * 11) o.cells := by
        have hb : Blk wr F (firstOps.flatMap Opn.cells).toArray 47 := by
          unfold Blk
          rw [hs8.block F HKf.out.lt (by rw [HLo.out F hFG]; simp [labP])]
          exact HKf.out
        exact flat_range hb (fun j v hv => by simpa using hv) ho
      have HR := hide hR
      have hFl : F < wr.heap.size := Nat.lt_of_lt_of_le HKf.out.lt hs8.size
      have HSt : Hid (Calls Tryz.prog 18 #[.pointer (some ⟨G, 0, none⟩), o.val] wr fun e w' => e = .returned (.bool true) ∧ Played W0 L0 G A exCfg zeroCfg (some b1) none (DT exTs) (.map []) (t + 1) w') := by
        by_cases h0 : t = 0
        · subst h0
          have eo : firstOps[0]? = some o := ho
          have e1 : o = ⟨1, 0, ⟨0, [], [], [], 0, 0⟩, 0, 0, 0, false, false⟩ := by simpa [firstOps] using eo.symm
          exact HP.out.open ex_good o (firstOk o (List.mem_of_getElem? ho)) (by rw [e1]) (by rw [e1]; rfl)
        · exact HP.out.step (by omega) (by omega) o (firstOk o (List.mem_of_getElem? ho))
      unfold Opn.val Opn.cells at HSt
      clear hR hs8
      go_wp2_with (first
        | (refine wpList_load_mid rfl 47 _ rfl F (t * 11) rfl [.int .i64 o.k, .int .i64 o.ag, .int .i64 o.b.dst, encStr o.b.ten, encStr o.b.id, encStr o.b.body, .int .i64 o.d, .int .i64 o.ms, .int .i64 o.dr, .bool o.gd, .bool o.ys] _ HR.out Tryz.underlying47 rfl infoOp ?_)
        | fail)
      refine HSt.out.mono ?_
      rintro e w4 ⟨rfl, hP4⟩
      have HP4 := hide hP4
      clear hP4
      go_wp2_with fail
      go_roundw
      case rel => exact ⟨t + 1, by omega, by go_num, HP4.out⟩
      case measure => simp [intOf]; omega
    · obtain rfl : t = 4 := by omega
      have hold : ∀ B, B ≤ G → B ≤ W0.heap.size → Below B W0 wr := fun B h1 h2 => HP.out.old h2 (fun k hk => HLo.out k (by omega))
      have hBr : Below w.heap.size w wr := HBw0.out.trans (hold _ (by omega) (by omega))
      have hKt : Blk wr w.heap.size (twoCfg c d m m').toArray 30 := HKt0.out.below (hold (w.heap.size + 1) (by omega) (by omega)) (by omega)
      have HKt := hide hKt
      have hn0 : ∀ b, m = some b → L0 b = none ∧ b < W0.heap.size := fun b hb => by
        rcases HM.out with ⟨h1, _⟩ | ⟨b', n', h1, h2, _⟩
        · rw [h1] at hb; cases hb
        · rw [h1] at hb; cases hb
          have := h2.lt
          exact ⟨HLo.out _ (by omega), by have := HBw0.out.size; omega⟩
      have hn1 : ∀ b, m' = some b → L0 b = none ∧ b < W0.heap.size := fun b hb => by
        rcases HM'.out with ⟨h1, _⟩ | ⟨b', n', h1, h2, _⟩
        · rw [h1] at hb; cases hb
        · rw [h1] at hb; cases hb
          have := h2.lt
          exact ⟨HLo.out _ (by omega), by have := HBw0.out.size; omega⟩
      have HPs : Hid (Played W0 L0 G A c d m m' D D' 4 (wr.setCells G 0 (twoCfg c d m m'))) := HP.out.stored (HM.out.below hBr (Nat.le_refl _)) (HM'.out.below hBr (Nat.le_refl _)) hn0 hn1
      have hthere : wr.there G 0 22 := by
        obtain ⟨L, cur, X, q1, _⟩ := HP.out
        have := (Array.getElem?_eq_some_iff.1 q1.c25).1
        exact q1.blk.1.there 0 22 (by omega)
      have Hth := hide hthere
      have hG4 := HP.out.kept.2
      have hwr4 := hKt.lt
      clear hold hBr hKt hn0 hn1 hthere
      go_wp2_with (first
        | (refine wpList_load_mid rfl 30 _ rfl w.heap.size 0 rfl (twoCfg c d m m') _ (HKt.out.range 0 _ rfl) Tryz.underlying30 rfl infoTwo ?_)
        | (refine wpList_store_mid rfl 30 _ _ rfl G 0 (twoCfg c d m m').toArray rfl rfl Hth.out infoTwo (all_oneCell_toArray (twoOne c d m m')) ?_)
        | fail)
      generalize hY : World.setCells wr G 0 _ = Y
      have HPy : Hid (Played W0 L0 G A c d m m' D D' 4 Y) := by rw [← hY]; exact HPs.out
      clear hY HP HPs Hth HKt hG4 hwr4
      go_loopw [13, 14, 15] (fun q _ _ wr => ∃ t : Nat, t ≤ n ∧ q = .int .i64 t ∧ Played W0 L0 G A c d m m' D D' (4 + t) wr) (fun q _ _ _ => n - (intOf q).toNat)
      case atStart => exact ⟨0, Nat.zero_le _, rfl, HPy.out⟩
      case round =>
        obtain ⟨t, ht, rfl, hP⟩ := hrel
        have HP := hide hP
        clear hP
        by_cases hlt : t < n
        · have hltI : (t : Int) < (n : Int) := by omega
          obtain ⟨o, ho⟩ : ∃ o, os[t]? = some o := ⟨_, List.getElem?_eq_getElem (by rw [HN.out]; exact hlt)⟩
          have hBr : Below w.heap.size w wr := HBw0.out.trans (HP.out.old HBw0.out.size (fun k hk => HLo.out k (by omega)))
          obtain ⟨b, off, rfl, hbl, hcs⟩ : ∃ b off, sa = some ⟨b, off, none⟩ ∧ b < wr.heap.size ∧ wr.rangeAt b (off + t * 11) o.cells := by
            rcases HO.out.below hBr with h | ⟨b, off, h1, h2, h3⟩
            · rw [h] at ho; cases ho
            · exact ⟨b, off, h1, h2, h3 t o ho⟩
          have HR := hide hcs
          have HSt := hide (HP.out.step (by omega) (by omega) o (HOk.out o (List.mem_of_getElem? ho)))
          have hG8 := HP.out.kept.2
          unfold Opn.val Opn.cells at HSt
          clear hcs hBr
          go_wp2_with (first
            | (refine wpList_load_mid rfl 47 _ rfl b (off + t * 11) rfl [.int .i64 o.k, .int .i64 o.ag, .int .i64 o.b.dst, encStr o.b.ten, encStr o.b.id, encStr o.b.body, .int .i64 o.d, .int .i64 o.ms, .int .i64 o.dr, .bool o.gd, .bool o.ys] _ HR.out Tryz.underlying47 rfl infoOp ?_)
            | fail)
          refine HSt.out.mono ?_
          rintro e w4 ⟨rfl, hP4⟩
          have HWh := hide (hP4.whole (by omega))
          have hG4 := hP4.kept.2
          clear hP4
          go_wp2_with fail
          refine HWh.out.mono ?_
          rintro e w5 ⟨rfl, hP5⟩
          have HP5 := hide hP5
          clear hP5
          go_wp2_with fail
          go_roundw
          case rel => exact ⟨t + 1, by omega, by go_num, HP5.out⟩
          case measure => simp [intOf]; omega
        · have HAs := hide (HP.out.asked (by omega))
          have hnt : n = t := by omega
          subst hnt
          go_wp2_with fail
          refine HAs.out.mono ?_
          rintro e w4 ⟨rfl, L9, hs9⟩
          have HF : Hid (Below w.heap.size w w4) := HBw0.out.trans (hs9.below HBw0.out.size (fun k hk => by rw [HLo.out k (by omega)]; simp [labP]))
          clear hs9
          go_wp2_with fail
          go_ret
          exact ⟨rfl, HF.out⟩
end Go.Proofs.YtojpjaifhjigfaaGreatDoor

/- conduitlaw.All. -/
namespace Go.Proofs.YtojpjaifhjigfaaGreatDoor
open Go.RowKit Go.Maps
attribute [local go_sem] run_store_float

set_option maxRecDepth 100000 in
set_option maxHeartbeats 4000000 in
theorem all_any (A : Nat → Addr) (c d : Cfg) (m m' : Option Nat) (la la' : Option Addr) (lk lk' : Nat) (ts ts' : List (List UInt8 × Int)) (sa : Option Addr) (sk : Nat) (os : List Opn) (w : World) (hS : Sents.Holds w 260 gl 11 A) (hok : TenOk ts) (hT : TenAt w la ts) (hok' : TenOk ts') (hT' : TenAt w la' ts')
    (hO : OpsAt w sa os) (hOk : ∀ o ∈ os, o.Ok) (hn : os.length ≤ 400000) :
    Calls Tryz.prog 6 #[c.val m, .slice la ts.length lk, d.val m', .slice la' ts'.length lk', .slice sa os.length sk] w fun e w' => e = .returned (.bool true) ∧ Below w.heap.size w w' := by
  have HUp : Hid (∀ ma mb W, MapAt W ma (DT ts) → MapAt W mb (DT ts') → Below w.heap.size w W → Calls Tryz.prog 20 #[.agg #[.int .i64 c.d, .map ma, .int .i64 c.q, .int .i64 c.at', .int .i64 c.ba, .int .i64 c.ca, .int .i64 c.ti, .int .i64 c.wi, .int .i64 c.le, .float .f64 c.th, .int .i64 c.op, .int .i64 d.d, .map mb, .int .i64 d.q, .int .i64 d.at', .int .i64 d.ba, .int .i64 d.ca, .int .i64 d.ti, .int .i64 d.wi, .int .i64 d.le, .float .f64 d.th, .int .i64 d.op], .slice sa os.length sk, .int .i64 9] W fun e w' => e = .returned (.int .i64 (-1)) ∧ Below W.heap.size W w') := fun ma mb W h1 h2 h3 =>
    upTo_any A c d ma mb (DT ts) (DT ts') sa sk os W (hS.below h3) h1 h2 (hO.below h3) hOk hn
  have HT := hide hT
  have HT' := hide hT'
  have Hok := hide hok
  have Hok' := hide hok'
  generalize hN : os.length = n at *
  clear hS hT hT' hO hOk hok hok' hN
  go_enter Tryz.func6, Tryz.ntmps6
  go_wp2_with fail
  generalize hV : World.alloc (World.alloc w _) _ = V
  have hKc : Blk V w.heap.size (c.cells m) 25 := by rw [← hV]; exact (Blk.new w _ _).alloc _
  have hKd : Blk V (w.heap.size + 1) (d.cells m') 25 := by rw [← hV]; exact Blk.made (by simp) _ _
  have hBV : Below w.heap.size w V := by rw [← hV]; exact ((Below.refl _ _).alloc (Nat.le_refl _) _).alloc (by simp) _
  have hzV : w.heap.size + 1 < V.heap.size := hKd.lt
  have hzV0 : w.heap.size < V.heap.size := by omega
  have HCf : Hid (∀ W, Below V.heap.size V W → W.cell? ⟨w.heap.size, 0, none⟩ = some (.int .i64 c.d) ∧ W.cell? ⟨w.heap.size, 1, none⟩ = some (.map m) ∧ W.cell? ⟨w.heap.size, 2, none⟩ = some (.int .i64 c.q) ∧ W.cell? ⟨w.heap.size, 3, none⟩ = some (.int .i64 c.at') ∧ W.cell? ⟨w.heap.size, 4, none⟩ = some (.int .i64 c.ba) ∧ W.cell? ⟨w.heap.size, 5, none⟩ = some (.int .i64 c.ca) ∧ W.cell? ⟨w.heap.size, 6, none⟩ = some (.int .i64 c.ti) ∧ W.cell? ⟨w.heap.size, 7, none⟩ = some (.int .i64 c.wi) ∧ W.cell? ⟨w.heap.size, 8, none⟩ = some (.int .i64 c.le) ∧ W.cell? ⟨w.heap.size, 9, none⟩ = some (.float .f64 c.th) ∧ W.cell? ⟨w.heap.size, 10, none⟩ = some (.int .i64 c.op) ∧ W.cell? ⟨(w.heap.size + 1), 0, none⟩ = some (.int .i64 d.d) ∧ W.cell? ⟨(w.heap.size + 1), 1, none⟩ = some (.map m') ∧ W.cell? ⟨(w.heap.size + 1), 2, none⟩ = some (.int .i64 d.q) ∧ W.cell? ⟨(w.heap.size + 1), 3, none⟩ = some (.int .i64 d.at') ∧ W.cell? ⟨(w.heap.size + 1), 4, none⟩ = some (.int .i64 d.ba) ∧ W.cell? ⟨(w.heap.size + 1), 5, none⟩ = some (.int .i64 d.ca) ∧ W.cell? ⟨(w.heap.size + 1), 6, none⟩ = some (.int .i64 d.ti) ∧ W.cell? ⟨(w.heap.size + 1), 7, none⟩ = some (.int .i64 d.wi) ∧ W.cell? ⟨(w.heap.size + 1), 8, none⟩ = some (.int .i64 d.le) ∧ W.cell? ⟨(w.heap.size + 1), 9, none⟩ = some (.float .f64 d.th) ∧ W.cell? ⟨(w.heap.size + 1), 10, none⟩ = some (.int .i64 d.op)) := fun W hb => by
    have k1 := hKc.below hb (by omega)
    have k2 := hKd.below hb (by omega)
    exact ⟨k1.cell 0, k1.cell 1, k1.cell 2, k1.cell 3, k1.cell 4, k1.cell 5, k1.cell 6, k1.cell 7, k1.cell 8, k1.cell 9, k1.cell 10, k2.cell 0, k2.cell 1, k2.cell 2, k2.cell 3, k2.cell 4, k2.cell 5, k2.cell 6, k2.cell 7, k2.cell 8, k2.cell 9, k2.cell 10⟩
  have HTc : Hid (∀ W, Below V.heap.size V W → TenAt W la ts ∧ TenAt W la' ts' ∧ Below w.heap.size w W) := fun W hb => by
    have h1 : Below w.heap.size w W := hBV.trans (hb.mono (by omega))
    exact ⟨tenAt_below HT.out h1, tenAt_below HT'.out h1, h1⟩
  clear hV hKc hKd hBV
  go_upto_region 1 with fail
  go_region_held3 (fun w' => w'.cell? ⟨w.heap.size, 0, none⟩ = some (.int .i64 c.d) ∧ w'.cell? ⟨w.heap.size, 1, none⟩ = some (.map m) ∧ w'.cell? ⟨w.heap.size, 2, none⟩ = some (.int .i64 c.q) ∧ w'.cell? ⟨w.heap.size, 3, none⟩ = some (.int .i64 c.at') ∧ w'.cell? ⟨w.heap.size, 4, none⟩ = some (.int .i64 c.ba) ∧ w'.cell? ⟨w.heap.size, 5, none⟩ = some (.int .i64 c.ca) ∧ w'.cell? ⟨w.heap.size, 6, none⟩ = some (.int .i64 c.ti) ∧ w'.cell? ⟨w.heap.size, 7, none⟩ = some (.int .i64 c.wi) ∧ w'.cell? ⟨w.heap.size, 8, none⟩ = some (.int .i64 c.le) ∧ w'.cell? ⟨w.heap.size, 9, none⟩ = some (.float .f64 c.th) ∧ w'.cell? ⟨w.heap.size, 10, none⟩ = some (.int .i64 c.op) ∧ w'.cell? ⟨(w.heap.size + 1), 0, none⟩ = some (.int .i64 d.d) ∧ w'.cell? ⟨(w.heap.size + 1), 1, none⟩ = some (.map m') ∧ w'.cell? ⟨(w.heap.size + 1), 2, none⟩ = some (.int .i64 d.q) ∧ w'.cell? ⟨(w.heap.size + 1), 3, none⟩ = some (.int .i64 d.at') ∧ w'.cell? ⟨(w.heap.size + 1), 4, none⟩ = some (.int .i64 d.ba) ∧ w'.cell? ⟨(w.heap.size + 1), 5, none⟩ = some (.int .i64 d.ca) ∧ w'.cell? ⟨(w.heap.size + 1), 6, none⟩ = some (.int .i64 d.ti) ∧ w'.cell? ⟨(w.heap.size + 1), 7, none⟩ = some (.int .i64 d.wi) ∧ w'.cell? ⟨(w.heap.size + 1), 8, none⟩ = some (.int .i64 d.le) ∧ w'.cell? ⟨(w.heap.size + 1), 9, none⟩ = some (.float .f64 d.th) ∧ w'.cell? ⟨(w.heap.size + 1), 10, none⟩ = some (.int .i64 d.op)) (exact HCf.out _ (by first | exact (Below.refl _ V).drew | exact HBe.out | exact HBa.out | exact HBb.out))
    (first
      | (go_at_call 15; have hq := HBa.out; clear hq; refine (config_any d m' la' lk' ts' _ Hok'.out (HTc.out _ HBa.out).2.1).mono ?_; rintro e wb ⟨mb, rfl, hMb, hmb, hbb⟩; have hBb : Below V.heap.size V wb := HBa.out.trans (hbb.mono HBa.out.size); have HBb := hide hBb; have HMb := hide hMb; have Hbb := hide hbb; clear hBb hMb hmb hbb)
      | (go_at_call 15; refine (config_any c m la lk ts _ Hok.out (HTc.out _ (Below.refl _ V).drew).1).mono ?_; rintro e wa ⟨ma, rfl, hMa, hma, hba⟩; have hBa : Below V.heap.size V wa := (Below.refl _ V).drew.trans hba; have HBa := hide hBa; have HMa := hide hMa; clear hBa hMa hma hba)
      | (go_at_call 20; refine (HUp.out ma mb _ (HMa.out.below Hbb.out (Nat.le_refl _)) HMb.out (HTc.out _ HBb.out).2.2).mono ?_; rintro e we ⟨rfl, hbe⟩; have hBe : Below V.heap.size V we := HBb.out.trans (hbe.mono HBb.out.size); have HBe := hide hBe; clear hBe hbe))
  all_goals
    go_wp2_with fail
    go_ret
    exact ⟨rfl, (HTc.out _ HBe.out).2.2⟩
end Go.Proofs.YtojpjaifhjigfaaGreatDoor

/- What every proof over this seat takes of the rows: the listed error variables, and a world that meets them. -/
namespace Go.Proofs.YtojpjaifhjigfaaGreatDoor
open Go.ChangeShapes Go.WideShapes Go.ChangeAt Go.WideMaps Go.WideElems Go.RowKit

theorem own : ownKnob Tryz.prog.godebug = none := by kernel_rfl
theorem cells142 : Tryz.prog.cellsOf 274 = 1 := by kernel_rfl
theorem cells9 : Tryz.prog.cellsOf 9 = 1 := by kernel_rfl
theorem star : "*" ++ "errors.errorString" = "*errors.errorString" := by decide
theorem row121 (u : TypeId) (h : Tryz.prog.typeName? 3 u = some "*errors.errorString") : u = 260 :=
  typeName_ptr_named (nm := "errors.errorString") (by rw [star]; kernel_rfl) (by kernel_rfl) (by decide) u (by rw [star]; exact h)

/-- The listed variables, as the condition has them. -/
abbrev laidAll : List (String × DataW Unit) := Rows.opensRow.laid

theorem listed : Sents.Listed Tryz.prog 71 "*errors.errorString" gl laidAll :=
  ⟨⟨_, rfl⟩, by kernel_rfl, by kernel_rfl, ⟨_, rfl⟩, by kernel_rfl, by kernel_rfl, ⟨_, rfl⟩, by kernel_rfl, by kernel_rfl, ⟨_, rfl⟩, by kernel_rfl, by kernel_rfl, ⟨_, rfl⟩, by kernel_rfl, by kernel_rfl, ⟨_, rfl⟩, by kernel_rfl, by kernel_rfl,
   ⟨_, rfl⟩, by kernel_rfl, by kernel_rfl, ⟨_, rfl⟩, by kernel_rfl, by kernel_rfl, ⟨_, rfl⟩, by kernel_rfl, by kernel_rfl, ⟨_, rfl⟩, by kernel_rfl, by kernel_rfl, ⟨_, rfl⟩, by kernel_rfl, by kernel_rfl, trivial⟩

theorem sents_of {W : World} (h : laidMetH Tryz.prog laidAll W) : ∃ A : Nat → Addr, Sents.Holds W 260 gl 11 A := by
  rw [MakeChecks.laidMetH_plain _ _ _ (by kernel_rfl)] at h
  exact Sents.of_laid Tryz.underlying71 row121 Tryz.underlying260 Tryz.underlying274 rfl rfl Tryz.underlying9 cells142 cells9 listed h

/-- The door's own heap meets the condition. -/
theorem door_met (os : Os) (args : Array Value) : laidMetH Tryz.prog laidAll ((World.doorLaid Tryz.prog 400 os).forCall (fun _ _ => 0) ⟨#[], args, []⟩).memory :=
  laidMetH_of_parts3 (fuel := 8) (laidMet_of_run' 8 (by kernel_rfl) (by kernel_rfl)) (by kernel_rfl) (by kernel_rfl)

end Go.Proofs.YtojpjaifhjigfaaGreatDoor
