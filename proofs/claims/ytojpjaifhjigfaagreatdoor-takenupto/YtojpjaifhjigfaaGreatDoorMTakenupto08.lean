/- Steps of the proof (several texts in one): OpensLab, ArgsLab, ProofBase, Bytes, Written, TakeLaws. -/
import Derived.Test.YtojpjaifhjigfaaGreatDoorMTakenupto07
import Derived.ProofKit
import Derived.Deep.Slices
import Derived.OpenShut
import Derived.Test.YtojpjaifhjigfaaGreatDoorRows
import Derived.Test.YtojpjaifhjigfaaGreatDoorCards
import Derived.Test.YtojpjaifhjigfaaGreatDoorTie
import Derived.Test.YtojpjaifhjigfaaGreatDoorMTakenupto01
import Derived.LaidMore
import Derived.Stop.Joined
import Derived.SevenTiedAt
import Derived.Test.YtojpjaifhjigfaaGreatDoorMTakenupto03
import Derived.Deep.AppendSrc
import Derived.Deep.DeepCutAuto
import Derived.WideKeyEntry
import Derived.Deep.RegionLaw

/- conduitlaw.Opens: Open of every configuration, with an empty log (over the labelled world). -/
namespace Go.Proofs.YtojpjaifhjigfaaGreatDoor
open Go.RowKit Go.Maps
attribute [local go_sem] run_store_float

def zeroCfg : Cfg := { d := 0, q := 0, at' := 0, ba := 0, ca := 0, ti := 0, wi := 0, le := 0, th := 0, op := 0 }
/-- The cells of a World. -/
abbrev wCells (c0 c1 : Cfg) (m0 m1 : Option Nat) (pv tv : Value) : Array Value :=
  #[.int .i64 c0.d, .map m0, .int .i64 c0.q, .int .i64 c0.at', .int .i64 c0.ba, .int .i64 c0.ca, .int .i64 c0.ti, .int .i64 c0.wi, .int .i64 c0.le, .float .f64 c0.th, .int .i64 c0.op,
    .int .i64 c1.d, .map m1, .int .i64 c1.q, .int .i64 c1.at', .int .i64 c1.ba, .int .i64 c1.ca, .int .i64 c1.ti, .int .i64 c1.wi, .int .i64 c1.le, .float .f64 c1.th, .int .i64 c1.op, pv, tv, .slice none 0 0, .slice none 0 0, .int .i64 0]

theorem cell_far (w : World) (o o' : Nat) (v : Value) {b b' : Nat} (h : b ≠ b') : (w.setCell ⟨b', o', none⟩ v).cell? ⟨b, o, none⟩ = w.cell? ⟨b, o, none⟩ := World.cell?_of_block (heap_setCell_other _ _ _ _ h)
theorem mapAt_setCells {m : Option Nat} {D : DataW Unit} {g : Nat} {w : World} (h : MapAt w m D) (hg : ∀ b, m = some b → b ≠ g) (vs : List Value) (o : Nat) : MapAt (w.setCells g o vs) m D := by
  rcases h with h | ⟨b, n, h1, ⟨es, clock, q1, q2⟩, h3⟩
  · exact Or.inl h
  · exact Or.inr ⟨b, n, h1, ⟨es, clock, by rw [heap_setCells _ o (hg b h1)]; exact q1, q2⟩, h3⟩
theorem splice0 (c0 c1 c : Cfg) (m0 m1 m : Option Nat) (pv tv : Value) : splice (wCells c0 c1 m0 m1 pv tv) 0 (c.cells m).toList = wCells c c1 m m1 pv tv := by
  apply Array.toList_inj.1
  rw [splice_toList _ _ _ (by simp)]
  rfl
theorem splice11 (c0 c1 c : Cfg) (m0 m1 m : Option Nat) (pv tv : Value) : splice (wCells c0 c1 m0 m1 pv tv) 11 (c.cells m).toList = wCells c0 c m0 m pv tv := by
  apply Array.toList_inj.1
  rw [splice_toList _ _ _ (by simp)]
  rfl
theorem stored0 {w : World} {g : Nat} {c0 c1 c : Cfg} {m0 m1 m : Option Nat} {pv tv : Value} (h : Blk w g (wCells c0 c1 m0 m1 pv tv) 38) : Blk (w.setCells g 0 (c.cells m).toList) g (wCells c c1 m m1 pv tv) 38 := by
  have := Blk.setCells (c.cells m).toList 0 h
  rw [splice0] at this
  exact this
theorem stored11 {w : World} {g : Nat} {c0 c1 c : Cfg} {m0 m1 m : Option Nat} {pv tv : Value} (h : Blk w g (wCells c0 c1 m0 m1 pv tv) 38) : Blk (w.setCells g 11 (c.cells m).toList) g (wCells c0 c m0 m pv tv) 38 := by
  have := Blk.setCells (c.cells m).toList 11 h
  rw [splice11] at this
  exact this
theorem tenAt_below {w w' : World} {a : Option Addr} {ts : List (List UInt8 × Int)} (h : TenAt w a ts) (hb : Below w.heap.size w w') : TenAt w' a ts := by
  rcases h with h | ⟨b, off, h1, h2, h3⟩
  · exact Or.inl h
  · refine Or.inr ⟨b, off, h1, Nat.lt_of_lt_of_le h2 hb.size, fun k hk => ?_⟩
    rw [hb.cell (p := ⟨b, _, none⟩) h2, hb.cell (p := ⟨b, _, none⟩) h2]
    exact h3 k hk
theorem tenAt_drew {w : World} {a : Option Addr} {ts : List (List UInt8 × Int)} (h : TenAt w a ts) : TenAt w.drew a ts := tenAt_below h (Below.refl _ _).drew

theorem wCells_zero {c0 c1 : Cfg} {m0 m1 : Option Nat} {pv tv : Value} {j : Nat} {v : Value} (h : (c0.cells m0)[j]? = some v) : (wCells c0 c1 m0 m1 pv tv)[0 * 11 + j]? = some v := by
  have hj : j < 11 := (Array.getElem?_eq_some_iff.1 h).1
  rw [← h]
  match j, hj with
  | 0, _ | 1, _ | 2, _ | 3, _ | 4, _ | 5, _ | 6, _ | 7, _ | 8, _ | 9, _ | 10, _ => rfl
theorem wCells_one {c0 c1 : Cfg} {m0 m1 : Option Nat} {pv tv : Value} {j : Nat} {v : Value} (h : (c1.cells m1)[j]? = some v) : (wCells c0 c1 m0 m1 pv tv)[1 * 11 + j]? = some v := by
  have hj : j < 11 := (Array.getElem?_eq_some_iff.1 h).1
  rw [← h]
  match j, hj with
  | 0, _ | 1, _ | 2, _ | 3, _ | 4, _ | 5, _ | 6, _ | 7, _ | 8, _ | 9, _ | 10, _ => rfl
theorem config_ex (g : Nat) (w : World) (h : TenAt w (some ⟨g, 0, none⟩) exTs) : Calls Tryz.prog 15 #[exCfg.val none, .slice (some ⟨g, 0, none⟩) 2 2] w fun e w' => ∃ m', e = .returned (exCfg.val m') ∧ MapAt w' m' (DT exTs) ∧ (∀ b, m' = some b → w.heap.size ≤ b) ∧ Below w.heap.size w w' :=
  config_any exCfg none (some ⟨g, 0, none⟩) 2 exTs w ex_ok h

set_option maxRecDepth 100000 in
set_option maxHeartbeats 2000000 in
theorem opens_any (A : Nat → Addr) (c : Cfg) (m : Option Nat) (la : Option Addr) (lk : Nat) (ts : List (List UInt8 × Int)) (w : World) (hS : Sents.Holds w 260 gl 11 A) (hok : TenOk ts) (hT : TenAt w la ts) :
    Calls Tryz.prog 3 #[c.val m, .slice la ts.length lk] w fun e w' => e = .returned (.bool true) ∧ Below w.heap.size w w' := by
  have HS := hide hS
  have HT := hide hT
  clear hS hT
  go_enter Tryz.func3, Tryz.ntmps3
  go_wp2_with fail
  refine (example_any _).mono ?_
  rintro e w1 ⟨g1, rfl, hE, hb1⟩
  have HK1 : Hid (Blk w1 w.heap.size (c.cells m) 25) := (Blk.new w _ _).below hb1 (by simp)
  have Hb1 : Hid (Below w.heap.size w w1) := ((Below.refl _ _).alloc (Nat.le_refl _) _).trans (hb1.mono (by simp))
  have HE := hide hE
  have hz1 : w.heap.size < w1.heap.size := HK1.out.lt
  clear hb1 hE
  go_upto_region 3 with fail
  generalize hV : World.alloc (World.alloc w1 _) _ = V
  have hKw : Blk V (w1.heap.size + 1) (wCells zeroCfg zeroCfg none none (.slice none 0 0) (.slice none 0 0)) 38 := by rw [← hV]; exact Blk.made (by simp) _ _
  have hKe : Blk V w1.heap.size (exCfg.cells none) 25 := by rw [← hV]; exact (Blk.new w1 _ _).alloc _
  have hbV : Below w1.heap.size w1 V := by rw [← hV]; exact ((Below.refl _ _).alloc (Nat.le_refl _) _).alloc (by simp) _
  have hKc : Blk V w.heap.size (c.cells m) 25 := HK1.out.below hbV hz1
  have hBV : Below w.heap.size w V := Hb1.out.trans (hbV.mono (by omega))
  have HTV : Hid (TenAt V la ts) := tenAt_below HT.out hBV
  have HbV := hide hbV
  generalize hN : w1.heap.size = N at *
  have HNe := hide hN
  obtain ⟨e0, e1, e2, e3, e4, e5, e6, e7, e8, e9, e10⟩ : V.cell? ⟨w.heap.size, 0, none⟩ = some (.int .i64 c.d) ∧ V.cell? ⟨w.heap.size, 1, none⟩ = some (.map (m)) ∧ V.cell? ⟨w.heap.size, 2, none⟩ = some (.int .i64 c.q) ∧ V.cell? ⟨w.heap.size, 3, none⟩ = some (.int .i64 c.at') ∧ V.cell? ⟨w.heap.size, 4, none⟩ = some (.int .i64 c.ba) ∧ V.cell? ⟨w.heap.size, 5, none⟩ = some (.int .i64 c.ca) ∧ V.cell? ⟨w.heap.size, 6, none⟩ = some (.int .i64 c.ti) ∧ V.cell? ⟨w.heap.size, 7, none⟩ = some (.int .i64 c.wi) ∧ V.cell? ⟨w.heap.size, 8, none⟩ = some (.int .i64 c.le) ∧ V.cell? ⟨w.heap.size, 9, none⟩ = some (.float .f64 c.th) ∧ V.cell? ⟨w.heap.size, 10, none⟩ = some (.int .i64 c.op) := ⟨hKc.cell 0, hKc.cell 1, hKc.cell 2, hKc.cell 3, hKc.cell 4, hKc.cell 5, hKc.cell 6, hKc.cell 7, hKc.cell 8, hKc.cell 9, hKc.cell 10⟩
  have HKw := hide hKw
  have HKe := hide hKe
  have HBV := hide hBV
  have hVl : w.heap.size < V.heap.size := hKc.lt
  have hVw : N + 1 < V.heap.size := hKw.lt
  have hfar := fun (W : World) (o o' : Nat) (v : Value) => cell_far W o o' v (show w.heap.size ≠ N + 1 by omega)
  clear hV hN hKw hKe hbV hKc hBV HK1
  go_cut [] (fun wx => ∃ m0, Blk wx (N + 1) (wCells c zeroCfg m0 none (.slice none 0 0) (.slice none 0 0)) 38 ∧ MapAt wx m0 (DT ts) ∧ (∀ b, m0 = some b → V.heap.size ≤ b) ∧ Below (N + 1) V wx)
  case first =>
    go_region_held3 (fun w' => w'.cell? ⟨w.heap.size, 0, none⟩ = some (.int .i64 c.d) ∧ w'.cell? ⟨w.heap.size, 1, none⟩ = some (.map (m)) ∧ w'.cell? ⟨w.heap.size, 2, none⟩ = some (.int .i64 c.q) ∧ w'.cell? ⟨w.heap.size, 3, none⟩ = some (.int .i64 c.at') ∧ w'.cell? ⟨w.heap.size, 4, none⟩ = some (.int .i64 c.ba) ∧ w'.cell? ⟨w.heap.size, 5, none⟩ = some (.int .i64 c.ca) ∧ w'.cell? ⟨w.heap.size, 6, none⟩ = some (.int .i64 c.ti) ∧ w'.cell? ⟨w.heap.size, 7, none⟩ = some (.int .i64 c.wi) ∧ w'.cell? ⟨w.heap.size, 8, none⟩ = some (.int .i64 c.le) ∧ w'.cell? ⟨w.heap.size, 9, none⟩ = some (.float .f64 c.th) ∧ w'.cell? ⟨w.heap.size, 10, none⟩ = some (.int .i64 c.op)) (go_keep)
      (first
        | (go_at_call 15; refine (config_any c m la lk ts _ hok (tenAt_drew HTV.out)).mono ?_; rintro e w2 ⟨m0, rfl, hM0, hm0, hb2⟩; have hc2 := fun o => hb2.cell (p := ⟨w.heap.size, o, none⟩) hVl; have hK2 : Blk w2 (N + 1) _ 38 := Blk.below (w := V.drew) HKw.out hb2 hVw; obtain ⟨z0, z1, z2, z3, z4, z5, z6, z7, z8, z9, z10⟩ : w2.cell? ⟨N + 1, 0, none⟩ = some (.int .i64 zeroCfg.d) ∧ w2.cell? ⟨N + 1, 1, none⟩ = some (.map (none)) ∧ w2.cell? ⟨N + 1, 2, none⟩ = some (.int .i64 zeroCfg.q) ∧ w2.cell? ⟨N + 1, 3, none⟩ = some (.int .i64 zeroCfg.at') ∧ w2.cell? ⟨N + 1, 4, none⟩ = some (.int .i64 zeroCfg.ba) ∧ w2.cell? ⟨N + 1, 5, none⟩ = some (.int .i64 zeroCfg.ca) ∧ w2.cell? ⟨N + 1, 6, none⟩ = some (.int .i64 zeroCfg.ti) ∧ w2.cell? ⟨N + 1, 7, none⟩ = some (.int .i64 zeroCfg.wi) ∧ w2.cell? ⟨N + 1, 8, none⟩ = some (.int .i64 zeroCfg.le) ∧ w2.cell? ⟨N + 1, 9, none⟩ = some (.float .f64 zeroCfg.th) ∧ w2.cell? ⟨N + 1, 10, none⟩ = some (.int .i64 zeroCfg.op) := ⟨hK2.cell 0, hK2.cell 1, hK2.cell 2, hK2.cell 3, hK2.cell 4, hK2.cell 5, hK2.cell 6, hK2.cell 7, hK2.cell 8, hK2.cell 9, hK2.cell 10⟩; have hfz := fun o => hK2.frozen o; have HK2 := hide hK2; have HM0 := hide hM0; have Hm0 := hide hm0; have Hb2 := hide hb2; clear hK2 hM0 hm0 hb2))
    all_goals
      go_wp2_with fail
      go_meet
      generalize hX : (World.setCell (World.setCell (World.setCell (World.setCell (World.setCell (World.setCell (World.setCell (World.setCell (World.setCell (World.setCell (World.setCell w2 _ _) _ _) _ _) _ _) _ _) _ _) _ _) _ _) _ _) _ _) _ _) = X
      have hX' : w2.setCells (N + 1) 0 (c.cells m0).toList = X := hX
      clear hX
      subst hX'
      exact ⟨m0, stored0 HK2.out, mapAt_setCells HM0.out (fun b hb e => by have : V.heap.size ≤ b := Hm0.out b hb; omega) _ 0, Hm0.out, below_setCells (Nat.le_refl _) _ 0 ((Below.refl (N + 1) V).drew.trans (Hb2.out.mono (Nat.le_of_lt hVw)))⟩
  case rest =>
    obtain ⟨m0, hKw, hM0, hm0, hb2⟩ := hcut
    have hV2 : V.heap.size ≤ wc.heap.size := hb2.size
    have hKe2 : Blk wc N (exCfg.cells none) 25 := HKe.out.below hb2 (by omega)
    have HE2 : Hid (TenAt wc (some ⟨g1, 0, none⟩) exTs) := tenAt_below HE.out (by rw [HNe.out]; exact HbV.out.trans (hb2.mono (by omega)))
    clear e0 e1 e2 e3 e4 e5 e6 e7 e8 e9 e10
    obtain ⟨e0, e1, e2, e3, e4, e5, e6, e7, e8, e9, e10⟩ : wc.cell? ⟨N, 0, none⟩ = some (.int .i64 exCfg.d) ∧ wc.cell? ⟨N, 1, none⟩ = some (.map (none)) ∧ wc.cell? ⟨N, 2, none⟩ = some (.int .i64 exCfg.q) ∧ wc.cell? ⟨N, 3, none⟩ = some (.int .i64 exCfg.at') ∧ wc.cell? ⟨N, 4, none⟩ = some (.int .i64 exCfg.ba) ∧ wc.cell? ⟨N, 5, none⟩ = some (.int .i64 exCfg.ca) ∧ wc.cell? ⟨N, 6, none⟩ = some (.int .i64 exCfg.ti) ∧ wc.cell? ⟨N, 7, none⟩ = some (.int .i64 exCfg.wi) ∧ wc.cell? ⟨N, 8, none⟩ = some (.int .i64 exCfg.le) ∧ wc.cell? ⟨N, 9, none⟩ = some (.float .f64 exCfg.th) ∧ wc.cell? ⟨N, 10, none⟩ = some (.int .i64 exCfg.op) := ⟨hKe2.cell 0, hKe2.cell 1, hKe2.cell 2, hKe2.cell 3, hKe2.cell 4, hKe2.cell 5, hKe2.cell 6, hKe2.cell 7, hKe2.cell 8, hKe2.cell 9, hKe2.cell 10⟩
    have HB2 : Hid (Below w.heap.size w wc) := HBV.out.trans (hb2.mono (by omega))
    have HKw2 := hide hKw
    have HM02 := hide hM0
    have Hm02 := hide hm0
    have hNw : N < wc.heap.size := by omega
    have hfar2 := fun (W : World) (o o' : Nat) (v : Value) => cell_far W o o' v (show N ≠ N + 1 by omega)
    clear hKe2 hKw hM0 hm0 hb2 hfar
    generalize hwc : wc = V2 at *
    clear hwc
    go_upto_region 4 with fail
    go_cut [] (fun wx => ∃ b1 n1, Blk wx (N + 1) (wCells c exCfg m0 (some b1) (.slice none 0 0) (.slice none 0 0)) 38 ∧ MapAt wx m0 (DT ts) ∧ OM wx b1 n1 (DT exTs) ∧ n1 ≤ big ∧ Below w.heap.size w wx)
    case first =>
      go_region_held3 (fun w' => w'.cell? ⟨N, 0, none⟩ = some (.int .i64 exCfg.d) ∧ w'.cell? ⟨N, 1, none⟩ = some (.map (none)) ∧ w'.cell? ⟨N, 2, none⟩ = some (.int .i64 exCfg.q) ∧ w'.cell? ⟨N, 3, none⟩ = some (.int .i64 exCfg.at') ∧ w'.cell? ⟨N, 4, none⟩ = some (.int .i64 exCfg.ba) ∧ w'.cell? ⟨N, 5, none⟩ = some (.int .i64 exCfg.ca) ∧ w'.cell? ⟨N, 6, none⟩ = some (.int .i64 exCfg.ti) ∧ w'.cell? ⟨N, 7, none⟩ = some (.int .i64 exCfg.wi) ∧ w'.cell? ⟨N, 8, none⟩ = some (.int .i64 exCfg.le) ∧ w'.cell? ⟨N, 9, none⟩ = some (.float .f64 exCfg.th) ∧ w'.cell? ⟨N, 10, none⟩ = some (.int .i64 exCfg.op)) (go_keep)
        (first
          | (go_at_call 15; refine (config_ex g1 _ (tenAt_drew HE2.out)).mono ?_; rintro e w3 ⟨m1, rfl, hM1, hm1, hb3⟩; have hc3 := fun o => hb3.cell (p := ⟨N, o, none⟩) hNw; have hK3 : Blk w3 (N + 1) _ 38 := Blk.below (w := V2.drew) HKw2.out hb3 HKw2.out.lt; obtain ⟨z0, z1, z2, z3, z4, z5, z6, z7, z8, z9, z10⟩ : w3.cell? ⟨N + 1, 11, none⟩ = some (.int .i64 zeroCfg.d) ∧ w3.cell? ⟨N + 1, 12, none⟩ = some (.map none) ∧ w3.cell? ⟨N + 1, 13, none⟩ = some (.int .i64 zeroCfg.q) ∧ w3.cell? ⟨N + 1, 14, none⟩ = some (.int .i64 zeroCfg.at') ∧ w3.cell? ⟨N + 1, 15, none⟩ = some (.int .i64 zeroCfg.ba) ∧ w3.cell? ⟨N + 1, 16, none⟩ = some (.int .i64 zeroCfg.ca) ∧ w3.cell? ⟨N + 1, 17, none⟩ = some (.int .i64 zeroCfg.ti) ∧ w3.cell? ⟨N + 1, 18, none⟩ = some (.int .i64 zeroCfg.wi) ∧ w3.cell? ⟨N + 1, 19, none⟩ = some (.int .i64 zeroCfg.le) ∧ w3.cell? ⟨N + 1, 20, none⟩ = some (.float .f64 zeroCfg.th) ∧ w3.cell? ⟨N + 1, 21, none⟩ = some (.int .i64 zeroCfg.op) := ⟨hK3.cell 11, hK3.cell 12, hK3.cell 13, hK3.cell 14, hK3.cell 15, hK3.cell 16, hK3.cell 17, hK3.cell 18, hK3.cell 19, hK3.cell 20, hK3.cell 21⟩; have hfz := fun o => hK3.frozen o; have HK3 := hide hK3; have HM1 := hide hM1; have Hm1 := hide hm1; have Hb3 := hide hb3; clear hK3 hM1 hm1 hb3))
      all_goals
        go_wp2_with fail
        go_meet
        generalize hX : (World.setCell (World.setCell (World.setCell (World.setCell (World.setCell (World.setCell (World.setCell (World.setCell (World.setCell (World.setCell (World.setCell w3 _ _) _ _) _ _) _ _) _ _) _ _) _ _) _ _) _ _) _ _) _ _) = X
        have hX' : w3.setCells (N + 1) 11 (exCfg.cells m1).toList = X := hX
        clear hX
        subst hX'
        obtain ⟨b1, n1, rfl, h2, h3⟩ : ∃ b1 n1, m1 = some b1 ∧ OM w3 b1 n1 (DT exTs) ∧ n1 ≤ big := by
          rcases HM1.out with ⟨_, h⟩ | ⟨b, n, h1, h2, h3⟩
          · exact absurd ex_good.2.1.1.1 (by rw [h]; simp [Maps.size])
          · exact ⟨b, n, h1, h2, h3⟩
        have hlt3 : N + 1 < V2.heap.size := HKw2.out.lt
        have hb1 : V2.heap.size ≤ b1 := Hm1.out b1 rfl
        refine ⟨b1, n1, stored11 HK3.out, ?_, ?_, h3, ?_⟩
        · exact mapAt_setCells (HM02.out.below (w' := w3) ((Below.refl V2.heap.size V2).drew.trans Hb3.out) (Nat.le_refl _)) (fun b hb e => by have : V.heap.size ≤ b := Hm02.out b hb; omega) _ 11
        · obtain ⟨es, clock, q1, q2⟩ := h2
          exact ⟨es, clock, by rw [heap_setCells _ 11 (by omega)]; exact q1, q2⟩
        · exact below_setCells (by omega) _ 11 (HB2.out.trans ((Below.refl w.heap.size V2).drew.trans (Hb3.out.mono (show w.heap.size ≤ V2.heap.size by omega))))
    case rest =>
      obtain ⟨b1, n1, hKw3, hM03, hO1, hn1, hB3⟩ := hcut
      generalize hwc : wc = V3 at *
      clear hwc e0 e1 e2 e3 e4 e5 e6 e7 e8 e9 e10 hfar2
      have HN1 : Hid (N + 1 < V3.heap.size) := hKw3.lt
      have hN0 : w.heap.size < N := by have := HNe.out; omega
      have hnm : ∀ (b : Nat), V3.heap[b]? = V3.heap[N + 1]? → ∀ (es : Array MapEntry) (cl : Nat), V3.heap[b]? ≠ some (Obj.map es cl) := fun b hb es cl h => by
        have := hKw3
        unfold Blk at this
        rw [← hb, h] at this
        cases this
      have hlab : ∀ (m : Option Nat) (D : DataW Unit), MapAt V3 m D → ∀ b, m = some b → (fun k => if k = N + 1 then bl 2 0 else none : Labs) b = none := fun m D hm b hb => by
        rcases hm with ⟨e, _⟩ | ⟨b', n', e, ⟨es, cl, q, _⟩, _⟩
        · rw [hb] at e; cases e
        · rw [hb] at e
          cases e
          exact if_neg (fun e => hnm b (by rw [e]) es cl q)
      have hW : WAt V3 (fun k => if k = N + 1 then bl 2 0 else none) (N + 1) A (wCells c exCfg m0 (some b1) (.slice none 0 0) (.slice none 0 0)) (.slice none 0 0) (.slice none 0 0) (.slice none 0 0) 0 0 0 [] := by
        refine ⟨⟨hKw3, by simp⟩, rfl, rfl, rfl, rfl, RowAt.nil _ _ _ _ _, fun i v hv => by simp at hv, ⟨[], RowAt.nil _ _ _ _ _, fun i v hv => by simp at hv⟩, ⟨[], RowAt.nil _ _ _ _ _, fun i v hv => by simp at hv⟩, ⟨HS.out.below hB3, fun i hi => ?_, fun i hi => ?_⟩⟩
        · have := World.block_lt_of_cell? w _ (HS.out.cell i hi)
          exact if_neg (by have h2 : gl.getD i 0 < w.heap.size := this; omega)
        · obtain ⟨cc, tt, hcc⟩ := HS.out.block i hi
          have := (Array.getElem?_eq_some_iff.1 hcc).1
          exact if_neg (by omega)
      have hc1 : CfgAt V3 (fun k => if k = N + 1 then bl 2 0 else none) (wCells c exCfg m0 (some b1) (.slice none 0 0) (.slice none 0 0)) 1 exCfg (some b1) (DT exTs) := ⟨fun j v hv => wCells_one hv, Or.inr ⟨b1, n1, rfl, hO1, hn1⟩, hlab _ _ (Or.inr ⟨b1, n1, rfl, hO1, hn1⟩)⟩
      have hc0 : CfgAt V3 (fun k => if k = N + 1 then bl 2 0 else none) (wCells c exCfg m0 (some b1) (.slice none 0 0) (.slice none 0 0)) 0 c m0 (DT ts) := ⟨fun j v hv => wCells_zero hv, hM03, hlab _ _ hM03⟩
      have HB3 := hide hB3
      have HC0 := hide hc0
      have HO := hide (opened_any _ (N + 1) A 1 1 (by omega) pick_1 _ _ _ _ 0 0 0 [] exCfg (some b1) (DT exTs) V3 hW hc1 (by omega))
      clear hKw3 hM03 hO1 hB3 hnm hlab hW hc1 hc0
      go_wp2_with fail
      refine HO.out.mono ?_
      rintro e V4 ⟨rfl, L4, cur4, pv4, np4, ps4, hW4, _, hnp4, _, hcur4, hS4⟩
      have hc4 : CfgAt V4 L4 cur4 0 c m0 (DT ts) := HC0.out.keep hS4 (by simp [opP]) (fun i hi => hcur4 i (by omega)) (by omega)
      have HS4 := hide hS4
      have HO4 := hide (opened_any L4 (N + 1) A 0 0 (by omega) pick_0 cur4 pv4 _ _ np4 0 0 ps4 c m0 (DT ts) V4 hW4 hc4 (by omega))
      clear hW4 hcur4 hS4 hc4 HO
      go_wp2_with fail
      refine HO4.out.mono ?_
      rintro e V5 ⟨rfl, L5, cur5, pv5, np5, ps5, hW5, _, hnp5, _, hcur5, hS5⟩
      have HS5 := hide hS5
      have HA := hide (asked_any L5 (N + 1) A cur5 pv5 _ _ np5 0 0 ps5 V5 hW5 (by omega) (by omega) (by omega))
      clear hW5 hcur5 hS5 HO4
      go_wp2_with fail
      refine HA.out.mono ?_
      rintro e V6 ⟨rfl, L6, hS6⟩
      have HF : Hid (Below w.heap.size w V6) := by
        have hS : Step someP (fun k => if k = N + 1 then bl 2 0 else none) V3 L6 V6 := ((HS4.out.mono (fun l h => by rcases h with rfl | rfl <;> simp [someP, bl])).trans (HS5.out.mono (fun l h => by rcases h with rfl | rfl <;> simp [someP, bl]))).trans hS6
        refine HB3.out.trans (hS.below (by have := HN1.out; omega) (fun k hk => ?_))
        simp only [someP]
        rw [if_neg (by omega)]
        simp
      clear hS6
      go_wp2_with fail
      go_ret
      exact ⟨rfl, HF.out⟩
end Go.Proofs.YtojpjaifhjigfaaGreatDoor

/- What a configuration and a list of tenants look like that come in as arguments. -/
namespace Go.Proofs.YtojpjaifhjigfaaGreatDoor
open Go.ChangeShapes Go.WideShapes Go.ChangeAt Go.WideMaps Go.WideElems Go.RowKit
set_option maxRecDepth 100000

theorem cellInt {w : World} {r : Reach} {b : Nat} {v : Value} (h : Cell.okWide Tryz.prog w r b 3 v) : ∃ n, v = .int .i64 n := by
  unfold Cell.okWide Cell.ok at h
  simp only [Tryz.underlying3] at h
  cases v <;> simp at h
  exact ⟨_, by rw [h.1]⟩
theorem cellFloat {w : World} {r : Reach} {b : Nat} {v : Value} (h : Cell.okWide Tryz.prog w r b 23 v) : ∃ n, v = .float .f64 n := by
  unfold Cell.okWide Cell.ok at h
  simp only [Tryz.underlying23] at h
  cases v <;> simp at h
  exact ⟨_, by rw [h.1]⟩
theorem cellMap {w : World} {r : Reach} {b : Nat} {v : Value} (h : Cell.okWide Tryz.prog w r b 22 v) : ∃ n, v = .map n := by
  unfold Cell.okWide Cell.ok at h
  simp only [Tryz.underlying22] at h
  cases v <;> simp at h
  exact ⟨_, rfl⟩

theorem cfgTypes : Tryz.prog.cellTypes Tryz.prog.depth 25 = some [3, 22, 3, 3, 3, 3, 3, 3, 3, 23, 3] := by kernel_rfl
theorem cfgCellsOf : Tryz.prog.cellsOf 25 = 11 := by kernel_rfl
theorem tenCells : Tryz.prog.cellsOf 94 = 2 := by kernel_rfl
theorem strCells : Tryz.prog.cellsOf 9 = 1 := by kernel_rfl
theorem intCells : Tryz.prog.cellsOf 3 = 1 := by kernel_rfl
theorem tenBytes : Tryz.prog.bytesOf 94 = 24 := by kernel_rfl

/-- A configuration that comes in is one of eleven cells. -/
theorem cfg_shape {w : World} {r : Reach} {b : Nat} {v : Value} (h : Value.okWide Tryz.prog w r b 25 v) : ∃ (c : Cfg) (m : Option Nat), v = c.val m := by
  unfold Value.okWide at h
  simp only [Tryz.underlying25] at h
  obtain ⟨⟨l⟩, rfl, hsz, ts, hts, _, hc⟩ := h
  rw [cfgCellsOf] at hsz
  rw [cfgTypes] at hts
  obtain rfl := Option.some.inj hts
  match l, hsz with
  | [a0, a1, a2, a3, a4, a5, a6, a7, a8, a9, a10], _ =>
    have g : ∀ (i : Nat) (v : Value) (t : TypeId), #[a0, a1, a2, a3, a4, a5, a6, a7, a8, a9, a10][i]? = some v → [3, 22, 3, 3, 3, 3, 3, 3, 3, 23, 3][i % 11]? = some t → Cell.okWide Tryz.prog w r b t v := fun i v t h1 h2 => by
      obtain ⟨u, hu, hk⟩ := hc i v h1
      have e : u = t := Option.some.inj (hu.symm.trans h2)
      rw [← e]; exact hk
    obtain ⟨n0, rfl⟩ := cellInt (g 0 _ _ rfl rfl)
    obtain ⟨m1, rfl⟩ := cellMap (g 1 _ _ rfl rfl)
    obtain ⟨n2, rfl⟩ := cellInt (g 2 _ _ rfl rfl)
    obtain ⟨n3, rfl⟩ := cellInt (g 3 _ _ rfl rfl)
    obtain ⟨n4, rfl⟩ := cellInt (g 4 _ _ rfl rfl)
    obtain ⟨n5, rfl⟩ := cellInt (g 5 _ _ rfl rfl)
    obtain ⟨n6, rfl⟩ := cellInt (g 6 _ _ rfl rfl)
    obtain ⟨n7, rfl⟩ := cellInt (g 7 _ _ rfl rfl)
    obtain ⟨n8, rfl⟩ := cellInt (g 8 _ _ rfl rfl)
    obtain ⟨n9, rfl⟩ := cellFloat (g 9 _ _ rfl rfl)
    obtain ⟨n10, rfl⟩ := cellInt (g 10 _ _ rfl rfl)
    exact ⟨⟨n0, n2, n3, n4, n5, n6, n7, n8, n9, n10⟩, m1, rfl⟩

theorem exists_list {α : Type} {n : Nat} {Q : Nat → α → Prop} (h : ∀ i, i < n → ∃ x, Q i x) : ∃ l : List α, l.length = n ∧ ∀ i (hi : i < l.length), Q i (l[i]'hi) := by
  induction n with
  | zero => exact ⟨[], rfl, fun i hi => absurd hi (Nat.not_lt_zero _)⟩
  | succ n ih =>
    obtain ⟨l, hl, hq⟩ := ih (fun i hi => h i (by omega))
    obtain ⟨x, hx⟩ := h n (by omega)
    refine ⟨l ++ [x], by simp [hl], fun i hi => ?_⟩
    by_cases hin : i < l.length
    · rw [List.getElem_append_left hin]; exact hq i hin
    · have e : i = l.length := by simp at hi; omega
      subst e
      simp [hl]
      exact hx

/-- A list of tenants that comes in. -/
theorem tenants_of {H : Type} {enc : TypeId × Value → H} {W : World} {a : Option Addr} {len cap : Nat} {d : DataW H} {p : List MemPlace} (h : DataW.Trod enc Tryz.prog W 0 (fun _ => true) true 26 (.slice a len cap) d p) :
    ∃ ts : List (List UInt8 × Int), ts.length = len ∧ TenAt W a ts ∧ (∀ x ∈ ts, x.1.length ≤ maxLen ∧ (Lit.int .i64 x.2).wf = true) ∧ (len = 0 ∨ ∃ elems spare, d = .slice elems spare ∧ elems.length = len) := by
  obtain ⟨fuel, hf⟩ := h
  rcases Go.Deep.open_slice Tryz.underlying26 hf with ⟨h1, _⟩ | ⟨a', len', cap', m, n, D, Pl, h1, _, hl, hm, hmm, hx, hel⟩
  · simp only [Value.cells, List.cons.injEq, Value.slice.injEq, and_true] at h1
    obtain ⟨_, rfl, _⟩ := h1
    exact ⟨[], rfl, Or.inl rfl, fun x hx => (by cases hx), Or.inl rfl⟩
  · simp only [Value.cells, List.cons.injEq, Value.slice.injEq, and_true] at h1
    obtain ⟨rfl, rfl, rfl⟩ := h1
    have hmc : m = cap := by simpa using hmm
    subst hmc
    have hcell : ∀ i, i < len → ∃ (s : List UInt8) (q : Int), W.cell? (a'.add (i * 2)) = some (encStr s) ∧ W.cell? ((a'.add (i * 2)).add 1) = some (.int .i64 q) ∧ s.length ≤ maxLen ∧ (Lit.int .i64 q).wf = true := fun i hi => by
      obtain ⟨cs', hc, ht⟩ := hel i (by omega)
      rw [tenCells] at hc
      obtain ⟨y0, y1, n', _, hlc, t0, t1⟩ := trod_struct2 Tryz.underlying94 ht
      rw [tenCells] at hlc
      match cs', hlc with
      | [c0, c1], _ =>
        obtain ⟨s, e0, _, hs⟩ := DataW.trod_string Tryz.underlying9 t0
        obtain ⟨q, e1, _, hq⟩ := DataW.trod_int Tryz.underlying3 t1
        obtain ⟨_, _, hcc⟩ := World.cells?_some hc
        have k0 := hcc 0 (by omega)
        have k1 := hcc 1 (by omega)
        refine ⟨s.data.toList, q, ?_, ?_, by simpa using hs, hq⟩
        · have e0' : c0 = .string s := by simpa [strCells] using e0
          rw [e0'] at k0
          simpa [Addr.add] using k0
        · have e1' : c1 = .int .i64 q := by simpa [intCells] using e1
          rw [e1'] at k1
          simpa using k1
    obtain ⟨ts, hlen, hts⟩ := exists_list (n := len) (Q := fun i (x : List UInt8 × Int) => W.cell? (a'.add (i * 2)) = some (encStr x.1) ∧ W.cell? ((a'.add (i * 2)).add 1) = some (.int .i64 x.2) ∧ x.1.length ≤ maxLen ∧ (Lit.int .i64 x.2).wf = true) (fun i hi => by
      obtain ⟨s, q, h⟩ := hcell i hi
      exact ⟨(s, q), h⟩)
    have hxd : d = .slice ((List.range len).map D) ((List.range (m - len)).map fun j => D (len + j)) := by simpa using congrArg Prod.fst hx
    refine ⟨ts, hlen, ?_, ?_, Or.inr ⟨_, _, hxd, by simp⟩⟩
    · by_cases h0 : len = 0
      · exact Or.inl (List.eq_nil_of_length_eq_zero (by omega))
      · obtain ⟨b, off, sp⟩ := a'
        have hsp : sp = none := by
          have h1 := (hts 0 (by omega)).1
          cases sp with
          | none => rfl
          | some x =>
            have hlt := World.block_lt_of_cell? W _ h1
            unfold World.cell? at h1
            simp only [Addr.add] at h1
            split at h1
            · split at h1
              · cases h1
              · rename_i hs
                simp at hs
            · cases h1
        subst hsp
        refine Or.inr ⟨b, off, rfl, ?_, fun k hk => ?_⟩
        · have := World.block_lt_of_cell? W _ (hts 0 (by omega)).1
          rw [Addr.add_mid] at this
          exact this
        · have h1 := (hts k hk).1
          have h2 := (hts k hk).2.1
          rw [Addr.add_mid] at h1
          rw [Addr.add_mid, Addr.add_mid] at h2
          exact ⟨h1, h2⟩
    · intro x hx'
      obtain ⟨i, hi, rfl⟩ := List.mem_iff_getElem.1 hx'
      exact (hts i hi).2.2
end Go.Proofs.YtojpjaifhjigfaaGreatDoor

/- What every proof over this seat takes of the rows: the listed error variables, and a world that meets them. -/
namespace Go.Proofs.YtojpjaifhjigfaaGreatDoor
open Go.ChangeShapes Go.WideShapes Go.ChangeAt Go.WideMaps Go.WideElems Go.RowKit

theorem own : ownKnob Tryz.prog.godebug = none := by kernel_rfl
theorem cells142 : Tryz.prog.cellsOf 274 = 1 := by kernel_rfl
theorem cells9 : Tryz.prog.cellsOf 9 = 1 := by kernel_rfl
theorem star : "*" ++ "errors.errorString" = "*errors.errorString" := by decide
theorem row121 (u : TypeId) (h : Tryz.prog.typeName? 3 u = some "*errors.errorString") : u = 260 :=
  typeName_ptr_named (nm := "errors.errorString") (by rw [star]; kernel_rfl) (by kernel_rfl) (by decide) u (by rw [star]; exact h)

/-- The listed variables, as the condition has them. -/
abbrev laidAll : List (String × DataW Unit) := Rows.opensRow.laid

theorem listed : Sents.Listed Tryz.prog 71 "*errors.errorString" gl laidAll :=
  ⟨⟨_, rfl⟩, by kernel_rfl, by kernel_rfl, ⟨_, rfl⟩, by kernel_rfl, by kernel_rfl, ⟨_, rfl⟩, by kernel_rfl, by kernel_rfl, ⟨_, rfl⟩, by kernel_rfl, by kernel_rfl, ⟨_, rfl⟩, by kernel_rfl, by kernel_rfl, ⟨_, rfl⟩, by kernel_rfl, by kernel_rfl,
   ⟨_, rfl⟩, by kernel_rfl, by kernel_rfl, ⟨_, rfl⟩, by kernel_rfl, by kernel_rfl, ⟨_, rfl⟩, by kernel_rfl, by kernel_rfl, ⟨_, rfl⟩, by kernel_rfl, by kernel_rfl, ⟨_, rfl⟩, by kernel_rfl, by kernel_rfl, trivial⟩

theorem sents_of {W : World} (h : laidMetH Tryz.prog laidAll W) : ∃ A : Nat → Addr, Sents.Holds W 260 gl 11 A := by
  rw [MakeChecks.laidMetH_plain _ _ _ (by kernel_rfl)] at h
  exact Sents.of_laid Tryz.underlying71 row121 Tryz.underlying260 Tryz.underlying274 rfl rfl Tryz.underlying9 cells142 cells9 listed h

/-- The door's own heap meets the condition. -/
theorem door_met (os : Os) (args : Array Value) : laidMetH Tryz.prog laidAll ((World.doorLaid Tryz.prog 400 os).forCall (fun _ _ => 0) ⟨#[], args, []⟩).memory :=
  laidMetH_of_parts3 (fuel := 8) (laidMet_of_run' 8 (by kernel_rfl) (by kernel_rfl)) (by kernel_rfl) (by kernel_rfl)

end Go.Proofs.YtojpjaifhjigfaaGreatDoor

/- What a call tells the log: appendEvent, written, for a batch that is taken. -/
namespace Go.Proofs.YtojpjaifhjigfaaGreatDoor
open Go.RowKit Go.Maps

/-- A row of bytes. -/
def byts (l : List UInt8) : List Value := l.map fun b => Value.int .u8 b.toNat
theorem byts_append (a b : List UInt8) : byts (a ++ b) = byts a ++ byts b := by simp [byts]
theorem infoByte : (Tryz.prog.info? 5).map (fun i => (i.zero, i.size, i.bytes)) = some (some (.int .u8 0), 1, 1) := by kernel_rfl

/-- append(dst, s...): a text's bytes behind a row of bytes that is the call's own. -/
theorem run_append_text (w : World) (ty : TypeId) (g n cap : Nat) (xs : List UInt8) (s : List UInt8) (hown : w.ownsRow 0 5 1 (.slice (some ⟨g, 0, none⟩) n cap) n (byts xs)) (hn : n + s.length ≤ 1000000) :
    ∃ g' cap' w', (Builtin.append_ #[156, 9] ty #[.slice (some ⟨g, 0, none⟩) n cap, encStr s]).run Tryz.prog w = .ok (.slice (some ⟨g', 0, none⟩) (n + s.length) cap') w' ∧
      w'.ownsRow 0 5 1 (.slice (some ⟨g', 0, none⟩) (n + s.length) cap') (n + s.length) (byts (xs ++ s)) ∧ w.grownBy w' (some g) ∧ (g' = g ∨ g' = w.heap.size) := by
  obtain ⟨i, hi, hz0, hz1, hz2⟩ := info_parts infoByte
  have hsz : (ByteArray.mk s.toArray).size = s.length := by simp [ByteArray.size]
  have hbc : byteCells (ByteArray.mk s.toArray) = byts s := by simp [byteCells, byts]
  have hS : Src Tryz.prog i.size 9 (encStr s) s.length (byts s) w := by
    have := Src.ofString (P := Tryz.prog) w Tryz.underlying9 (ByteArray.mk s.toArray)
    rw [hsz, hbc] at this
    rw [hz1]
    exact this
  have hown' := hown
  rcases hown.2 with ⟨e, _⟩ | ⟨g0, cap0, cur, q1, _, q3, q4, q5, q6, q7⟩
  · cases e
  · simp only [Value.slice.injEq, Option.some.injEq, Addr.mk.injEq, and_true, true_and] at q1
    obtain ⟨rfl, rfl⟩ := q1
    have hB : Blk w g cur 5 := q3
    simp only [Nat.mul_one] at q6 q7
    by_cases hroom : n + s.length ≤ cap
    · have hr := run_append_room_src (P := Tryz.prog) w 156 9 ty 5 i Tryz.underlying156 hi g 0 n cap (encStr s) s.length (byts s) hS hroom
        (fun j hj => by rw [hz1, hB.cell, Array.getElem?_eq_getElem (by simp [byts] at hj; omega)]; rfl) (fun j hj => hB.frozen _)
      rw [hz1, Nat.mul_one, Nat.zero_add] at hr
      refine ⟨g, cap, _, hr, ⟨by simp [byts]; have := hown'.1; simp [byts] at this; omega, Or.inr ⟨g, cap, _, rfl, Nat.zero_le _, hB.setCells (byts s) n, hroom, q5, ?_, ?_⟩⟩, ⟨?_, ?_, ?_, ?_, ?_⟩, Or.inl rfl⟩
      · rw [splice_size]; omega
      · have := splice_take (l := byts s) (cs := cur) (o := n) (by simp [byts]; omega)
        rw [q7, ← byts_append] at this
        simpa [byts] using this
      · exact (Step.setCells (p := fun _ => True) (fun _ => none) trivial (byts s) w n).os
      · exact (Step.setCells (p := fun _ => True) (fun _ => none) trivial (byts s) w n).tape
      · exact (Step.setCells (p := fun _ => True) (fun _ => none) trivial (byts s) w n).output
      · exact (Step.setCells (p := fun _ => True) (fun _ => none) trivial (byts s) w n).size
      · intro k hk hne
        exact heap_setCells _ _ (fun e => hne (by rw [e]))
    · have hold : (Builtin.firstCells i.size n (.slice (some ⟨g, 0, none⟩) n cap)).run Tryz.prog w.drew = .ok (byts xs).toArray w.drew := by
        rw [hz1]
        exact run_firstCells_some w.drew 1 n ⟨g, 0, none⟩ n cap (byts xs) (by rw [hown'.1]) (fun j u hu => hown'.cells (by simp [Value.ownBlock]) j u hu)
      have hr := run_append_grow_src (P := Tryz.prog) w 156 9 ty 5 i (.int .u8 0) Tryz.underlying156 hi hz0 (some ⟨g, 0, none⟩) n cap (byts xs) hold (encStr s) s.length (byts s) hS (by omega) (by omega)
        (by have := nextslicecap_le (need := n + s.length) (old := cap) (by omega); rw [hz2]; omega)
      have hge := grownCap_ge w (n + s.length) cap 5
      have hcm : grownCap w (n + s.length) cap 5 ≤ maxLen := grownCap_le_maxLen w (n + s.length) cap 5 (by unfold maxLen; omega)
      have hxl : (byts xs).length = n := by have := hown'.1; omega
      refine ⟨_, _, _, hr, ⟨?_, Or.inr ⟨_, _, _, rfl, Nat.zero_le _, heap_alloc_new w.drew _, hge, hcm, ?_, ?_⟩⟩, ⟨rfl, rfl, rfl, by simp, fun k hk _ => Below.heap_alloc w.drew _ k hk⟩, Or.inr rfl⟩
      · rw [byts_append, List.length_append, hxl]; simp [byts]
      · simp only [Array.size_append, List.size_toArray, size_zeroCells, List.length_append, hxl]
        simp [byts, Value.cells]
        omega
      · rw [Array.toList_append, byts_append]
        have : n + s.length = (byts xs ++ byts s).length := by rw [List.length_append, hxl]; simp [byts]
        rw [Nat.mul_one, this]
        exact List.take_left

/-- At the operation. -/
theorem wpList_append_text (w : World) {ops : Array Oper} {rest : List Oper} {o : Oper} {a : Act} {Q : Exit → Act → World → Prop} (hgd : o.guard = none) (s x : Operand)
    (ho : o.op = .call { callee := .builtin .append, args := #[s, x], argTypes := #[156, 9] }) (g n cap : Nat) (xs t : List UInt8) (hs : a.eval s = .slice (some ⟨g, 0, none⟩) n cap) (hx : a.eval x = encStr t)
    (hown : w.ownsRow 0 5 1 (.slice (some ⟨g, 0, none⟩) n cap) n (byts xs)) (hn : n + t.length ≤ 1000000)
    (h : ∀ g' cap' w', w'.ownsRow 0 5 1 (.slice (some ⟨g', 0, none⟩) (n + t.length) cap') (n + t.length) (byts (xs ++ t)) → w.grownBy w' (some g) → (g' = g ∨ g' = w.heap.size) → wpList Tryz.prog ops Q rest (a.put o.dst (.slice (some ⟨g', 0, none⟩) (n + t.length) cap')) w') : wpList Tryz.prog ops Q (o :: rest) a w := by
  refine wpList_plain hgd fun _ hK => ?_
  obtain ⟨g', cap', w', hr, h1, h2, h3⟩ := run_append_text w o.type g n cap xs t hown hn
  unfold Oper.wp execOp
  simp only [ho, resolve, invoke, builtin, Sem.run_bind, Sem.run_pure, Result.andThen_ok, List.map_toArray, List.map_cons, List.map_nil, hs, hx, hr]
  exact hK _ _ (h g' cap' w' h1 h2 h3)

/-- The bytes that tell of a batch that was taken. -/
def evParts (b : Bat) : List (List UInt8) := [b.ten, b.id, b.body]
def part (s : List UInt8) : List UInt8 := UInt8.ofNat s.length :: s
def evBytes (b : Bat) : List UInt8 := [0, UInt8.ofNat b.dst.toNat] ++ (evParts b).flatMap part
def evVal (b : Bat) : Value := .agg #[.int .i64 0, .int .i64 b.dst, encStr b.ten, encStr b.id, encStr b.body, .int .i64 0, .int .i64 0]

theorem u8_of {n : Nat} (h : n < 256) : ((UInt8.ofNat n).toNat : Int) = n := by
  rw [UInt8.toNat_ofNat']
  omega
theorem row_ne {w : World} {g gs n cap : Nat} {xs : List Value} {cur : Array Value} (h : w.ownsRow 0 5 1 (.slice (some ⟨g, 0, none⟩) n cap) n xs) (hb : Blk w gs cur 9) : gs ≠ g := fun e => by
  rcases h.2 with ⟨e', _⟩ | ⟨g0, cap0, cu, q1, _, q3, _⟩
  · cases e'
  · simp only [Value.slice.injEq, Option.some.injEq, Addr.mk.injEq, and_true, true_and] at q1
    obtain ⟨rfl, rfl⟩ := q1
    unfold Blk at hb
    rw [e, q3] at hb
    simp only [Option.some.injEq, Obj.cells.injEq] at hb
    exact absurd hb.2.1 (by decide)

theorem byts_snoc {w : World} {v : Value} {n m : Nat} {ys : List UInt8} (h : w.ownsRow 0 5 1 v n (byts ys ++ [.int .u8 (m : Int)])) (hm : m < 256) : w.ownsRow 0 5 1 v n (byts (ys ++ [UInt8.ofNat m])) := by
  rw [byts_append]
  have e : byts [UInt8.ofNat m] = [.int .u8 (m : Int)] := by simp only [byts, List.map_cons, List.map_nil, u8_of hm]
  rw [e]
  exact h

set_option maxRecDepth 100000 in
set_option maxHeartbeats 2000000 in
theorem appendEvent_take (v : Value) (n : Nat) (xs : List UInt8) (b : Bat) (w : World) (hown : w.ownsRow 0 5 1 v n (byts xs)) (hn : n ≤ 900000) (hd : 0 ≤ b.dst ∧ b.dst < 4) (ht : b.ten.length ≤ 16) (hid : b.id.length ≤ 16) (hbo : b.body.length ≤ 63) :
    Calls Tryz.prog 140 #[v, evVal b] w fun e w' => ∃ g cap, e = .returned (.slice (some ⟨g, 0, none⟩) (n + (evBytes b).length) cap) ∧ w'.ownsRow 0 5 1 (.slice (some ⟨g, 0, none⟩) (n + (evBytes b).length) cap) (n + (evBytes b).length) (byts (xs ++ evBytes b)) ∧ w.grownBy w' v.ownBlock ∧ (v.ownBlock = some g ∨ w.heap.size ≤ g) := by
  obtain ⟨i0, hi, hz0, hz1, hz2⟩ := info_parts infoByte
  obtain ⟨va, vk, rfl⟩ := ownsRow_shape hown
  have HO := hide hown
  obtain ⟨d, hdd⟩ : ∃ d : Nat, b.dst = d := ⟨b.dst.toNat, by omega⟩
  have hd4 : d < 4 := by omega
  unfold evVal
  rw [hdd]
  clear hown
  go_enter Tryz.func140, Tryz.ntmps140
  go_wp2_with (first
    | (at_builtin; refine wpList_append_lies _ rfl _ _ 156 rfl 0 5 i0 (.int .u8 0) 1 1 Tryz.underlying156 hi hz0 hz1 hz2 rfl (by decide) _ _ _ rfl ((HO.out.alloc _).alloc _) ⟨w.heap.size + 1, 0, none⟩ 2 2 [.int .u8 0, .int .u8 d] rfl rfl (World.news_of_block (cs := #[.int .u8 0, .int .u8 d]) (t := 5) (fr := (0, 0)) (obj_new (by simp) _)) (by simp [Value.oneCell']) (by decide) (by unfold maxLen; omega) (by omega) (Nat.zero_le _) (w.heap.size + 2) (by simp) ?_; intro g1 cap1 w1 hown1 hg1 hat1 hlt1; have hE : Blk w1 w.heap.size #[.int .i64 0, .int .i64 d, encStr b.ten, encStr b.id, encStr b.body, .int .i64 0, .int .i64 0] 151 := Blk.grown ((Blk.new w _ _).alloc _) hg1 (fun e => absurd (HO.out.lt _ e.symm).2 (by omega)); have k2 : w1.cell? ⟨w.heap.size, 2, none⟩ = some (encStr b.ten) := hE.cell 2; have k3 : w1.cell? ⟨w.heap.size, 3, none⟩ = some (encStr b.id) := hE.cell 3; have k4 : w1.cell? ⟨w.heap.size, 4, none⟩ = some (encStr b.body) := hE.cell 4; have Ho1 := hide hown1; have Hg1 := hide hg1; have Hat1 := hide hat1; clear hE hown1 hg1 hat1)
    | fail)
  have HG1 : Hid (w.grownBy w1 (Value.slice va n vk).ownBlock) := (World.grownBy_alloc w _ _).andThen ((World.grownBy_alloc _ _ _).andThen Hg1.out (fun j hj => Or.inr hj)) (fun j hj => Or.inr hj)
  have HO1 : Hid (w1.ownsRow 0 5 1 (.slice (some ⟨g1, 0, none⟩) (n + 2) cap1) (n + 2) (byts (xs ++ [0, UInt8.ofNat d]))) := by
    have := Ho1.out
    rw [byts_append]
    have e : byts [0, UInt8.ofNat d] = [.int .u8 0, .int .u8 d] := by
      simp only [byts, List.map_cons, List.map_nil, u8_of (show d < 256 by omega)]
      rfl
    rw [e]
    exact this
  have HA1 : Hid ((Value.slice va n vk).ownBlock = some g1 ∨ w.heap.size ≤ g1) := Hat1.out.imp id (fun e => by omega)
  have hz1w : w.heap.size ≤ w1.heap.size := HG1.out.size
  clear Ho1 Hg1 Hat1 k2 k3 k4
  have hlen3 : ∀ k, k ≤ 3 → ((evParts b).take k |>.flatMap part).length ≤ 98 := fun k hk => by
    match k, hk with
    | 0, _ => simp
    | 1, _ => simp [evParts, part]; omega
    | 2, _ => simp [evParts, part]; omega
    | 3, _ => simp [evParts, part]; omega
  go_loopw [0, 6, 43] (fun t _ i wr => ∃ (k g cap : Nat), k ≤ 3 ∧ i = .int .i64 k ∧ t = .slice (some ⟨g, 0, none⟩) (n + 2 + ((evParts b).take k |>.flatMap part).length) cap ∧ wr.ownsRow 0 5 1 (.slice (some ⟨g, 0, none⟩) (n + 2 + ((evParts b).take k |>.flatMap part).length) cap) (n + 2 + ((evParts b).take k |>.flatMap part).length) (byts (xs ++ [0, UInt8.ofNat d] ++ ((evParts b).take k |>.flatMap part))) ∧
      Blk wr w1.heap.size #[encStr b.ten, encStr b.id, encStr b.body] 9 ∧ w.grownBy wr (Value.slice va n vk).ownBlock ∧ ((Value.slice va n vk).ownBlock = some g ∨ w.heap.size ≤ g)) (fun _ _ i _ => 3 - (intOf i).toNat)
  case atStart => exact ⟨0, g1, cap1, by omega, rfl, by simp, by simpa using HO1.out.alloc _, Blk.new _ _ _, HG1.out.andThen (World.grownBy_alloc _ _ none) (fun j hj => by cases hj), HA1.out⟩
  case round =>
    obtain ⟨k, g, cap, hk, rfl, rfl, hown, hst, hgr, hat⟩ := hrel
    have Ho := hide hown
    have Hst := hide hst
    have Hgr := hide hgr
    have Hat := hide hat
    have hL := hlen3 k hk
    generalize hm : ((evParts b).take k |>.flatMap part) = pre at *
    have Hm := hide hm
    clear hown hst hgr hat hm
    by_cases hlt : k < 3
    · have hltI : (k : Int) < 3 := by omega
      obtain ⟨x, hx⟩ : ∃ x, (evParts b)[k]? = some x := ⟨_, List.getElem?_eq_getElem (by simp [evParts]; exact hlt)⟩
      have hxl : x.length ≤ 63 := by
        have : x ∈ evParts b := List.mem_of_getElem? hx
        simp [evParts] at this
        rcases this with rfl | rfl | rfl <;> omega
      have hcx : wr.cell? ⟨w1.heap.size, k, none⟩ = some (encStr x) := by
        rw [Hst.out.cell k]
        match k, hlt, hx with
        | 0, _, hx => simp [evParts] at hx; subst hx; rfl
        | 1, _, hx => simp [evParts] at hx; subst hx; rfl
        | 2, _, hx => simp [evParts] at hx; subst hx; rfl
      have HStep : Hid (((evParts b).take (k + 1) |>.flatMap part) = pre ++ part x) := by
        have h1 : k < (evParts b).length := (List.getElem?_eq_some_iff.1 hx).1
        have h2 : (evParts b)[k] = x := (List.getElem?_eq_some_iff.1 hx).2
        show _ = _
        rw [List.take_succ_eq_append_getElem h1, List.flatMap_append, Hm.out, h2]
        simp
      have hxI : (x.length : Int) < 256 := by omega
      clear hx
      go_wp2_with (first
        | (at_builtin; refine wpList_append_lies _ rfl _ _ 156 rfl 0 5 i0 (.int .u8 0) 1 1 Tryz.underlying156 hi hz0 hz1 hz2 rfl (by decide) (.slice (some ⟨g, 0, none⟩) (n + 2 + pre.length) cap) _ _ rfl (Ho.out.alloc _) ⟨wr.heap.size, 0, none⟩ 1 1 [.int .u8 (x.length : Int)] rfl rfl (World.news_of_block (cs := #[.int .u8 (x.length : Int)]) (t := 5) (fr := (0, 0)) (obj_new rfl _)) (by simp [Value.oneCell']) (by decide) (by unfold maxLen; omega) (by omega) (Nat.zero_le _) (wr.heap.size + 1) (by simp) ?_; intro g2 cap2 w2 hown2 hg2 hat2 hlt2; have hO2 : w2.ownsRow 0 5 1 (.slice (some ⟨g2, 0, none⟩) (n + 2 + pre.length + 1) cap2) (n + 2 + pre.length + 1) (byts (xs ++ [0, UInt8.ofNat d] ++ pre ++ [UInt8.ofNat x.length])) := byts_snoc hown2 (by omega); have Hg2 := hide hg2; have Hat2 := hide hat2; have HO2 := hide hO2; have Hst2 := hide (Blk.grown (Hst.out.alloc _) hg2 (fun e => row_ne Ho.out Hst.out (Option.some.inj e))); clear hown2 hg2 hat2 hO2)
        | (at_builtin; refine wpList_append_text _ rfl _ _ rfl g2 (n + 2 + pre.length + 1) cap2 _ x rfl rfl HO2.out (by omega) ?_; intro g3 cap3 w3 hown3 hg3 hat3; have Ho3 := hide hown3; have Hg3 := hide hg3; have Hat3 := hide hat3; have Hst3 := hide (Hst2.out.grown hg3 (fun e => row_ne HO2.out Hst2.out (Option.some.inj e))); clear hown3 hg3 hat3)
        | fail)
      go_roundw
      case rel =>
        have hgA : w.grownBy w2 (Value.slice va n vk).ownBlock := Hgr.out.andThen ((World.grownBy_alloc wr _ _).trans Hg2.out) (fun j hj => by
          have e : g = j := by simpa [Value.ownBlock] using hj
          subst e
          exact Hat.out.symm.imp id id)
        have ha2 : (Value.slice va n vk).ownBlock = some g2 ∨ w.heap.size ≤ g2 := by
          rcases Hat2.out with e | e
          · have e' : g = g2 := by simpa [Value.ownBlock] using e
            subst e'
            exact Hat.out
          · have := Hgr.out.size
            exact Or.inr (by omega)
        have hgB : w.grownBy w3 (Value.slice va n vk).ownBlock := hgA.andThen Hg3.out (fun j hj => by
          have e : g2 = j := by simpa using hj
          subst e
          exact ha2.symm.imp id id)
        have hpl : (part x).length = x.length + 1 := by simp [part]
        refine ⟨k + 1, g3, cap3, by omega, by go_num, ?_, ?_, Hst3.out, hgB, ?_⟩
        · rw [HStep.out, List.length_append, hpl]
          congr 1
          omega
        · have := Ho3.out
          rw [HStep.out, List.length_append, hpl]
          rw [show n + 2 + pre.length + 1 + x.length = n + 2 + (pre.length + (x.length + 1)) by omega] at this
          simpa [part] using this
        · rcases Hat3.out with rfl | e
          · exact ha2
          · have := hgA.size
            exact Or.inr (by omega)
      case measure => simp [intOf]; omega
    · have e3 : k = 3 := by omega
      subst e3
      have Hpre : Hid (pre = (evParts b).flatMap part) := by rw [← Hm.out]; rfl
      go_wp2_with fail
      go_ret
      have hb2 : evBytes b = [0, UInt8.ofNat d] ++ pre := by
        unfold evBytes
        rw [Hpre.out, hdd]
        simp
      have hbl : (evBytes b).length = 2 + pre.length := by rw [hb2]; simp; omega
      refine ⟨g, cap, ?_, ?_, Hgr.out, Hat.out⟩
      · rw [hbl, ← Nat.add_assoc]; rfl
      · have := Ho.out
        rw [hbl, ← Nat.add_assoc, hb2, ← List.append_assoc]
        exact this
end Go.Proofs.YtojpjaifhjigfaaGreatDoor

/- written: the record of one event. -/
namespace Go.Proofs.YtojpjaifhjigfaaGreatDoor
open Go.RowKit Go.Maps

theorem infoEvent : (Tryz.prog.info? 151).map (·.size) = some 7 := by kernel_rfl
def evCells (b : Bat) : List Value := [.int .i64 0, .int .i64 b.dst, encStr b.ten, encStr b.id, encStr b.body, .int .i64 0, .int .i64 0]
theorem evVal_cells (b : Bat) : evVal b = .agg (evCells b).toArray := rfl
/-- The bytes of the record of a batch that was taken. -/
def recBytes (b : Bat) : List UInt8 := [43, 0, UInt8.ofNat (evBytes b).length] ++ evBytes b
theorem evBytes_le (b : Bat) (ht : b.ten.length ≤ 16) (hid : b.id.length ≤ 16) (hbo : b.body.length ≤ 63) : (evBytes b).length ≤ 100 := by
  simp [evBytes, evParts, part]
  omega

theorem head_row (w : World) (x y z : Value) : (w.alloc (.cells #[x, y, z] 5)).ownsRow 0 5 1 (.slice (some ⟨w.heap.size, 0, none⟩) 3 3) 3 [x, y, z] :=
  ⟨rfl, Or.inr ⟨_, _, _, rfl, Nat.zero_le _, obj_new rfl _, Nat.le_refl _, by unfold maxLen; omega, rfl, rfl⟩⟩

theorem convert_row {w : World} {g cap m : Nat} {b : Bat} (h : w.ownsRow 0 5 1 (.slice (some ⟨g, 0, none⟩) (3 + m) cap) (3 + m) ([.int .u8 43, .int .u8 0, .int .u8 (m : Int)] ++ byts (evBytes b))) (hm : (evBytes b).length = m) (hm2 : (m : Int) < 256) :
    (convert 156 9 (.slice (some ⟨g, 0, none⟩) (3 + m) cap)).run Tryz.prog w = .ok (encStr (recBytes b)) w := by
  have hl : (recBytes b).length = 3 + m := by simp [recBytes, hm]; omega
  have e : [.int .u8 43, .int .u8 0, .int .u8 (m : Int)] ++ byts (evBytes b) = byts (recBytes b) := by
    unfold recBytes
    rw [byts_append]
    congr 1
    simp only [byts, List.map_cons, List.map_nil, hm, u8_of (show m < 256 by omega)]
    rfl
  rw [e] at h
  rw [← hl]
  refine run_convert_bytes_back w 156 9 5 ⟨g, 0, none⟩ cap (recBytes b) Tryz.underlying156 Tryz.underlying5 Tryz.underlying9 (fun j hj => ?_)
  exact h.cells (by simp [Value.ownBlock]) j _ (by simp [byts, hj])

set_option maxRecDepth 100000 in
set_option maxHeartbeats 2000000 in
theorem written_take (ge : Nat) (b : Bat) (w : World) (he : Blk w ge (evCells b).toArray 151) (hd : 0 ≤ b.dst ∧ b.dst < 4) (ht : b.ten.length ≤ 16) (hid : b.id.length ≤ 16) (hbo : b.body.length ≤ 63) :
    Calls Tryz.prog 110 #[.int .u8 43, .slice (some ⟨ge, 0, none⟩) 1 1] w fun e w' => e = .returned (encStr (recBytes b)) ∧ Below w.heap.size w w' := by
  obtain ⟨i0, hi, hz0, hz1, hz2⟩ := info_parts infoByte
  have hle := evBytes_le b ht hid hbo
  have hpos : 0 < (evBytes b).length := by simp [evBytes]
  have HE := hide he
  clear he
  go_enter Tryz.func110, Tryz.ntmps110
  go_wp2_with fail
  refine wp_loop_rounds 2 ?_
  rw [rounds_succ]
  go_wp2_with (first
    | (refine wpList_load_mid rfl 151 _ rfl ge 0 rfl [.int .i64 0, .int .i64 b.dst, encStr b.ten, encStr b.id, encStr b.body, .int .i64 0, .int .i64 0] _ (HE.out.range 0 _ rfl) Tryz.underlying151 rfl infoEvent ?_)
    | fail)
  refine (appendEvent_take (.slice none 0 0) 0 [] b _ (World.ownsRow_nil _ _ _ _) (by omega) hd ht hid hbo).mono ?_
  rintro e w1 ⟨g1, cap1, rfl, ho1, hg1, _⟩
  simp only [Nat.zero_add, List.nil_append] at ho1
  generalize hm : (evBytes b).length = m at *
  have Ho1 := hide ho1
  have HB1 : Hid (Below w.heap.size w w1) := ((Below.refl _ _).alloc (Nat.le_refl _) _).grown hg1 (by simp) (fun j hj => by simp [Value.ownBlock] at hj)
  have hmI : (m : Int) < 256 := by omega
  have hbl : (byts (evBytes b)).length = m * 1 := by simp [byts, hm]
  have Hm := hide hm
  clear hm
  have hm0 : (m : Int) / 256 = 0 := by omega
  clear ho1 hg1
  rw [Nat.zero_add]
  go_wp2_with fail
  rw [rounds_succ]
  go_wp2_with (first
    | (at_builtin; refine wpList_append_lies _ rfl _ _ 156 rfl 0 5 i0 (.int .u8 0) 1 1 Tryz.underlying156 hi hz0 hz1 hz2 rfl (by decide) (.slice (some ⟨w1.heap.size, 0, none⟩) 3 3) _ [.int .u8 43, .int .u8 0, .int .u8 m] rfl (head_row w1 _ _ _) ⟨g1, 0, none⟩ m cap1 (byts (evBytes b)) rfl hbl (fun j u hu => cell?_alloc_old _ (Ho1.out.cells (by simp [Value.ownBlock]) j u hu)) (by simp [byts, Value.oneCell']) (by omega) (by unfold maxLen; omega) (by omega) (Nat.zero_le _) (w1.heap.size + 1) (by simp) ?_; intro g2 cap2 w2 hown2 hg2 hat2 hlt2; have hcv := convert_row hown2 Hm.out hmI; have HB2 : Hid (Below w.heap.size w w2) := (HB1.out.alloc HB1.out.size _).grown hg2 (by simp; exact Nat.le_succ_of_le HB1.out.size) (fun j hj => by (have e : w1.heap.size = j := by simpa [Value.ownBlock] using hj); rw [← e]; exact HB1.out.size); clear hown2 hg2 hat2)
    | fail)
  go_ret
  exact ⟨rfl, HB2.out⟩
end Go.Proofs.YtojpjaifhjigfaaGreatDoor

/- 'queues[key] = append(queues[key], place)': the entry, and the store into it. -/
namespace Go.Proofs.YtojpjaifhjigfaaGreatDoor
open Go.RowKit Go.Maps

/-- What is handed over with an entry: a store into it puts the value at its key. -/
def EntryBack (w1 : World) (b st n : Nat) (kl : Lit) (D : DataW Value) : Prop := ∀ (w2 : World) (a : Option Addr) (len cap : Nat), w2.heap[b]? = w1.heap[b]? →
  ∃ w3, (Instr.entryStore 132 (.map (some b)) (.int .i64 st) (.slice a len cap)).run Tryz.prog w2 = .ok () w3 ∧ w3.ownsMap Tryz.prog 202 Rq b (n + 1) (D.put kl (.held (.slice a len cap))) ∧ w2.grownBy w3 (some b)

theorem zeroInts (w : World) : (zeroValue 51).run Tryz.prog w = .ok (.slice none 0 0) w := by kernel_rfl

theorem entry_queue {w : World} {b n : Nat} {D : DataW Value} (h : w.ownsMap Tryz.prog 202 Rq b n D) (hn : n < maxLen) {d : Int} {t : List UInt8} (hl : LaneOk d t) :
    ∃ (a : Option Addr) (len cap st : Nat) (w1 : World), (Instr.mapEntry 132 (.map (some b)) (laneVal d t)).run Tryz.prog w = .ok (.tuple #[.slice a len cap, .int .i64 st]) w1 ∧ hdr D d t = .slice a len cap ∧ w.grownBy w1 (some b) ∧ EntryBack w1 b st n (laneKey d t) D := by
  have h0 := h
  obtain ⟨es, clock, hb, F, hs, hD⟩ := h
  have hkey := keyOf_lane hl
  obtain ⟨v0, st, es1, clock1, hrun, hv0, hback⟩ := WideElems.entry_then_store klawLane Tryz.underlying132 (z := .slice none 0 0) zeroInts hb F hkey
  have hsh : ∃ a len cap, v0 = .slice a len cap ∧ D.atKey (laneKey d t) (.held (.slice none 0 0)) = .held v0 := by
    rw [hD]
    rcases Maps.fit_look false lawLane Tryz.underlying132 (zeroInts w) hb F hkey with ⟨_, hno, hat⟩ | ⟨e1, y, hm1, hk1, _, hR1, hat, _⟩
    · rcases hv0 with ⟨e0, hm0, hk0, _⟩ | ⟨_, rfl⟩
      · exact absurd hk0 (hno e0 hm0)
      · exact ⟨_, _, _, rfl, hat _⟩
    · rcases hv0 with ⟨e0, hm0, hk0, rfl⟩ | ⟨hno, _⟩
      · have hpw : es.toList.Pairwise (fun x y => x.key ≠ y.key) := by
          have := F.stamped.2.2
          rw [List.nodup_iff_pairwise_ne, List.pairwise_map] at this
          exact this
        obtain rfl : e0 = e1 := entry_eq_of_key hpw hm0 hm1 (hk0.trans hk1.symm)
        rw [hat]
        unfold Rq at hR1
        split at hR1
        · rename_i a len cap he
          refine ⟨a, len, cap, he, ?_⟩
          rw [← Option.some.inj hR1]
        · cases hR1
      · exact absurd hk1 (hno e1 hm1)
  obtain ⟨a, len, cap, rfl, hat⟩ := hsh
  refine ⟨a, len, cap, st, _, hrun, by simp [hdr, hat], ⟨rfl, rfl, rfl, by simp [ChangeMaps.setBlock], fun k _ hk => ChangeMaps.heap_setBlock_other hb _ (fun e => hk (by rw [e]))⟩, fun w2 a' len' cap' hw2 => ?_⟩
  rw [ChangeMaps.heap_setBlock_same hb] at hw2
  obtain ⟨es', clock', hst, hup⟩ := hback w2 (.slice a' len' cap') hw2
  obtain ⟨w', hup', hown', _⟩ := h0.update lawLane Tryz.underlying132 hn (val := .slice a' len' cap') (d := .held (.slice a' len' cap')) (ps := []) hkey rfl
  rw [hup] at hup'
  have hw' : ChangeMaps.setBlock w b (.map es' clock') = w' := by
    have := hup'
    simp only [Result.ok.injEq, true_and] at this
    exact this
  obtain ⟨es2, clock2, hb2, F2, hs2, hD2⟩ := hown'
  rw [← hw', ChangeMaps.heap_setBlock_same hb] at hb2
  simp only [Option.some.injEq, Obj.map.injEq] at hb2
  obtain ⟨rfl, rfl⟩ := hb2
  exact ⟨_, hst, ⟨es', clock', ChangeMaps.heap_setBlock_same hw2 _, F2, hs2, hD2⟩, ⟨rfl, rfl, rfl, by simp [ChangeMaps.setBlock], fun k _ hk => ChangeMaps.heap_setBlock_other hw2 _ (fun e => hk (by rw [e]))⟩⟩

end Go.Proofs.YtojpjaifhjigfaaGreatDoor
