/- conduitlaw.Opens: Open of every configuration, with an empty log (over the labelled world). -/
import Derived.Test.YtojpjaifhjigfaaGreatDoorLawOpened
namespace Go.Proofs.YtojpjaifhjigfaaGreatDoor
open Go.RowKit Go.Maps
attribute [local go_sem] run_store_float

def zeroCfg : Cfg := { d := 0, q := 0, at' := 0, ba := 0, ca := 0, ti := 0, wi := 0, le := 0, th := 0, op := 0 }
/-- The cells of a World. -/
abbrev wCells (c0 c1 : Cfg) (m0 m1 : Option Nat) (pv tv : Value) : Array Value :=
  #[.int .i64 c0.d, .map m0, .int .i64 c0.q, .int .i64 c0.at', .int .i64 c0.ba, .int .i64 c0.ca, .int .i64 c0.ti, .int .i64 c0.wi, .int .i64 c0.le, .float .f64 c0.th, .int .i64 c0.op,
    .int .i64 c1.d, .map m1, .int .i64 c1.q, .int .i64 c1.at', .int .i64 c1.ba, .int .i64 c1.ca, .int .i64 c1.ti, .int .i64 c1.wi, .int .i64 c1.le, .float .f64 c1.th, .int .i64 c1.op, pv, tv, .slice none 0 0, .slice none 0 0, .int .i64 0]

theorem cell_far (w : World) (o o' : Nat) (v : Value) {b b' : Nat} (h : b ≠ b') : (w.setCell ⟨b', o', none⟩ v).cell? ⟨b, o, none⟩ = w.cell? ⟨b, o, none⟩ := World.cell?_of_block (heap_setCell_other _ _ _ _ h)
theorem mapAt_setCells {m : Option Nat} {D : DataW Unit} {g : Nat} {w : World} (h : MapAt w m D) (hg : ∀ b, m = some b → b ≠ g) (vs : List Value) (o : Nat) : MapAt (w.setCells g o vs) m D := by
  rcases h with h | ⟨b, n, h1, ⟨es, clock, q1, q2⟩, h3⟩
  · exact Or.inl h
  · exact Or.inr ⟨b, n, h1, ⟨es, clock, by rw [heap_setCells _ o (hg b h1)]; exact q1, q2⟩, h3⟩
theorem splice0 (c0 c1 c : Cfg) (m0 m1 m : Option Nat) (pv tv : Value) : splice (wCells c0 c1 m0 m1 pv tv) 0 (c.cells m).toList = wCells c c1 m m1 pv tv := by
  apply Array.toList_inj.1
  rw [splice_toList _ _ _ (by simp)]
  rfl
theorem splice11 (c0 c1 c : Cfg) (m0 m1 m : Option Nat) (pv tv : Value) : splice (wCells c0 c1 m0 m1 pv tv) 11 (c.cells m).toList = wCells c0 c m0 m pv tv := by
  apply Array.toList_inj.1
  rw [splice_toList _ _ _ (by simp)]
  rfl
theorem stored0 {w : World} {g : Nat} {c0 c1 c : Cfg} {m0 m1 m : Option Nat} {pv tv : Value} (h : Blk w g (wCells c0 c1 m0 m1 pv tv) 38) : Blk (w.setCells g 0 (c.cells m).toList) g (wCells c c1 m m1 pv tv) 38 := by
  have := Blk.setCells (c.cells m).toList 0 h
  rw [splice0] at this
  exact this
theorem stored11 {w : World} {g : Nat} {c0 c1 c : Cfg} {m0 m1 m : Option Nat} {pv tv : Value} (h : Blk w g (wCells c0 c1 m0 m1 pv tv) 38) : Blk (w.setCells g 11 (c.cells m).toList) g (wCells c0 c m0 m pv tv) 38 := by
  have := Blk.setCells (c.cells m).toList 11 h
  rw [splice11] at this
  exact this
theorem tenAt_below {w w' : World} {a : Option Addr} {ts : List (List UInt8 × Int)} (h : TenAt w a ts) (hb : Below w.heap.size w w') : TenAt w' a ts := by
  rcases h with h | ⟨b, off, h1, h2, h3⟩
  · exact Or.inl h
  · refine Or.inr ⟨b, off, h1, Nat.lt_of_lt_of_le h2 hb.size, fun k hk => ?_⟩
    rw [hb.cell (p := ⟨b, _, none⟩) h2, hb.cell (p := ⟨b, _, none⟩) h2]
    exact h3 k hk
theorem tenAt_drew {w : World} {a : Option Addr} {ts : List (List UInt8 × Int)} (h : TenAt w a ts) : TenAt w.drew a ts := tenAt_below h (Below.refl _ _).drew

theorem wCells_zero {c0 c1 : Cfg} {m0 m1 : Option Nat} {pv tv : Value} {j : Nat} {v : Value} (h : (c0.cells m0)[j]? = some v) : (wCells c0 c1 m0 m1 pv tv)[0 * 11 + j]? = some v := by
  have hj : j < 11 := (Array.getElem?_eq_some_iff.1 h).1
  rw [← h]
  match j, hj with
  | 0, _ | 1, _ | 2, _ | 3, _ | 4, _ | 5, _ | 6, _ | 7, _ | 8, _ | 9, _ | 10, _ => rfl
theorem wCells_one {c0 c1 : Cfg} {m0 m1 : Option Nat} {pv tv : Value} {j : Nat} {v : Value} (h : (c1.cells m1)[j]? = some v) : (wCells c0 c1 m0 m1 pv tv)[1 * 11 + j]? = some v := by
  have hj : j < 11 := (Array.getElem?_eq_some_iff.1 h).1
  rw [← h]
  match j, hj with
  | 0, _ | 1, _ | 2, _ | 3, _ | 4, _ | 5, _ | 6, _ | 7, _ | 8, _ | 9, _ | 10, _ => rfl
theorem config_ex (g : Nat) (w : World) (h : TenAt w (some ⟨g, 0, none⟩) exTs) : Calls Tryz.prog 15 #[exCfg.val none, .slice (some ⟨g, 0, none⟩) 2 2] w fun e w' => ∃ m', e = .returned (exCfg.val m') ∧ MapAt w' m' (DT exTs) ∧ (∀ b, m' = some b → w.heap.size ≤ b) ∧ Below w.heap.size w w' :=
  config_any exCfg none (some ⟨g, 0, none⟩) 2 exTs w ex_ok h

set_option maxRecDepth 100000 in
set_option maxHeartbeats 2000000 in
theorem opens_any (A : Nat → Addr) (c : Cfg) (m : Option Nat) (la : Option Addr) (lk : Nat) (ts : List (List UInt8 × Int)) (w : World) (hS : Sents.Holds w 260 gl 11 A) (hok : TenOk ts) (hT : TenAt w la ts) :
    Calls Tryz.prog 3 #[c.val m, .slice la ts.length lk] w fun e w' => e = .returned (.bool true) ∧ Below w.heap.size w w' := by
  have HS := hide hS
  have HT := hide hT
  clear hS hT
  go_enter Tryz.func3, Tryz.ntmps3
  go_wp2_with fail
  refine (example_any _).mono ?_
  rintro e w1 ⟨g1, rfl, hE, hb1⟩
  have HK1 : Hid (Blk w1 w.heap.size (c.cells m) 25) := (Blk.new w _ _).below hb1 (by simp)
  have Hb1 : Hid (Below w.heap.size w w1) := ((Below.refl _ _).alloc (Nat.le_refl _) _).trans (hb1.mono (by simp))
  have HE := hide hE
  have hz1 : w.heap.size < w1.heap.size := HK1.out.lt
  clear hb1 hE
  go_upto_region 3 with fail
  generalize hV : World.alloc (World.alloc w1 _) _ = V
  have hKw : Blk V (w1.heap.size + 1) (wCells zeroCfg zeroCfg none none (.slice none 0 0) (.slice none 0 0)) 38 := by rw [← hV]; exact Blk.made (by simp) _ _
  have hKe : Blk V w1.heap.size (exCfg.cells none) 25 := by rw [← hV]; exact (Blk.new w1 _ _).alloc _
  have hbV : Below w1.heap.size w1 V := by rw [← hV]; exact ((Below.refl _ _).alloc (Nat.le_refl _) _).alloc (by simp) _
  have hKc : Blk V w.heap.size (c.cells m) 25 := HK1.out.below hbV hz1
  have hBV : Below w.heap.size w V := Hb1.out.trans (hbV.mono (by omega))
  have HTV : Hid (TenAt V la ts) := tenAt_below HT.out hBV
  have HbV := hide hbV
  generalize hN : w1.heap.size = N at *
  have HNe := hide hN
  obtain ⟨e0, e1, e2, e3, e4, e5, e6, e7, e8, e9, e10⟩ : V.cell? ⟨w.heap.size, 0, none⟩ = some (.int .i64 c.d) ∧ V.cell? ⟨w.heap.size, 1, none⟩ = some (.map (m)) ∧ V.cell? ⟨w.heap.size, 2, none⟩ = some (.int .i64 c.q) ∧ V.cell? ⟨w.heap.size, 3, none⟩ = some (.int .i64 c.at') ∧ V.cell? ⟨w.heap.size, 4, none⟩ = some (.int .i64 c.ba) ∧ V.cell? ⟨w.heap.size, 5, none⟩ = some (.int .i64 c.ca) ∧ V.cell? ⟨w.heap.size, 6, none⟩ = some (.int .i64 c.ti) ∧ V.cell? ⟨w.heap.size, 7, none⟩ = some (.int .i64 c.wi) ∧ V.cell? ⟨w.heap.size, 8, none⟩ = some (.int .i64 c.le) ∧ V.cell? ⟨w.heap.size, 9, none⟩ = some (.float .f64 c.th) ∧ V.cell? ⟨w.heap.size, 10, none⟩ = some (.int .i64 c.op) := ⟨hKc.cell 0, hKc.cell 1, hKc.cell 2, hKc.cell 3, hKc.cell 4, hKc.cell 5, hKc.cell 6, hKc.cell 7, hKc.cell 8, hKc.cell 9, hKc.cell 10⟩
  have HKw := hide hKw
  have HKe := hide hKe
  have HBV := hide hBV
  have hVl : w.heap.size < V.heap.size := hKc.lt
  have hVw : N + 1 < V.heap.size := hKw.lt
  have hfar := fun (W : World) (o o' : Nat) (v : Value) => cell_far W o o' v (show w.heap.size ≠ N + 1 by omega)
  clear hV hN hKw hKe hbV hKc hBV HK1
  go_cut [] (fun wx => ∃ m0, Blk wx (N + 1) (wCells c zeroCfg m0 none (.slice none 0 0) (.slice none 0 0)) 38 ∧ MapAt wx m0 (DT ts) ∧ (∀ b, m0 = some b → V.heap.size ≤ b) ∧ Below (N + 1) V wx)
  case first =>
    go_region_held3 (fun w' => w'.cell? ⟨w.heap.size, 0, none⟩ = some (.int .i64 c.d) ∧ w'.cell? ⟨w.heap.size, 1, none⟩ = some (.map (m)) ∧ w'.cell? ⟨w.heap.size, 2, none⟩ = some (.int .i64 c.q) ∧ w'.cell? ⟨w.heap.size, 3, none⟩ = some (.int .i64 c.at') ∧ w'.cell? ⟨w.heap.size, 4, none⟩ = some (.int .i64 c.ba) ∧ w'.cell? ⟨w.heap.size, 5, none⟩ = some (.int .i64 c.ca) ∧ w'.cell? ⟨w.heap.size, 6, none⟩ = some (.int .i64 c.ti) ∧ w'.cell? ⟨w.heap.size, 7, none⟩ = some (.int .i64 c.wi) ∧ w'.cell? ⟨w.heap.size, 8, none⟩ = some (.int .i64 c.le) ∧ w'.cell? ⟨w.heap.size, 9, none⟩ = some (.float .f64 c.th) ∧ w'.cell? ⟨w.heap.size, 10, none⟩ = some (.int .i64 c.op)) (go_keep)
      (first
        | (go_at_call 15; refine (config_any c m la lk ts _ hok (tenAt_drew HTV.out)).mono ?_; rintro e w2 ⟨m0, rfl, hM0, hm0, hb2⟩; have hc2 := fun o => hb2.cell (p := ⟨w.heap.size, o, none⟩) hVl; have hK2 : Blk w2 (N + 1) _ 38 := Blk.below (w := V.drew) HKw.out hb2 hVw; obtain ⟨z0, z1, z2, z3, z4, z5, z6, z7, z8, z9, z10⟩ : w2.cell? ⟨N + 1, 0, none⟩ = some (.int .i64 zeroCfg.d) ∧ w2.cell? ⟨N + 1, 1, none⟩ = some (.map (none)) ∧ w2.cell? ⟨N + 1, 2, none⟩ = some (.int .i64 zeroCfg.q) ∧ w2.cell? ⟨N + 1, 3, none⟩ = some (.int .i64 zeroCfg.at') ∧ w2.cell? ⟨N + 1, 4, none⟩ = some (.int .i64 zeroCfg.ba) ∧ w2.cell? ⟨N + 1, 5, none⟩ = some (.int .i64 zeroCfg.ca) ∧ w2.cell? ⟨N + 1, 6, none⟩ = some (.int .i64 zeroCfg.ti) ∧ w2.cell? ⟨N + 1, 7, none⟩ = some (.int .i64 zeroCfg.wi) ∧ w2.cell? ⟨N + 1, 8, none⟩ = some (.int .i64 zeroCfg.le) ∧ w2.cell? ⟨N + 1, 9, none⟩ = some (.float .f64 zeroCfg.th) ∧ w2.cell? ⟨N + 1, 10, none⟩ = some (.int .i64 zeroCfg.op) := ⟨hK2.cell 0, hK2.cell 1, hK2.cell 2, hK2.cell 3, hK2.cell 4, hK2.cell 5, hK2.cell 6, hK2.cell 7, hK2.cell 8, hK2.cell 9, hK2.cell 10⟩; have hfz := fun o => hK2.frozen o; have HK2 := hide hK2; have HM0 := hide hM0; have Hm0 := hide hm0; have Hb2 := hide hb2; clear hK2 hM0 hm0 hb2))
    all_goals
      go_wp2_with fail
      go_meet
      generalize hX : (World.setCell (World.setCell (World.setCell (World.setCell (World.setCell (World.setCell (World.setCell (World.setCell (World.setCell (World.setCell (World.setCell w2 _ _) _ _) _ _) _ _) _ _) _ _) _ _) _ _) _ _) _ _) _ _) = X
      have hX' : w2.setCells (N + 1) 0 (c.cells m0).toList = X := hX
      clear hX
      subst hX'
      exact ⟨m0, stored0 HK2.out, mapAt_setCells HM0.out (fun b hb e => by have : V.heap.size ≤ b := Hm0.out b hb; omega) _ 0, Hm0.out, below_setCells (Nat.le_refl _) _ 0 ((Below.refl (N + 1) V).drew.trans (Hb2.out.mono (Nat.le_of_lt hVw)))⟩
  case rest =>
    obtain ⟨m0, hKw, hM0, hm0, hb2⟩ := hcut
    have hV2 : V.heap.size ≤ wc.heap.size := hb2.size
    have hKe2 : Blk wc N (exCfg.cells none) 25 := HKe.out.below hb2 (by omega)
    have HE2 : Hid (TenAt wc (some ⟨g1, 0, none⟩) exTs) := tenAt_below HE.out (by rw [HNe.out]; exact HbV.out.trans (hb2.mono (by omega)))
    clear e0 e1 e2 e3 e4 e5 e6 e7 e8 e9 e10
    obtain ⟨e0, e1, e2, e3, e4, e5, e6, e7, e8, e9, e10⟩ : wc.cell? ⟨N, 0, none⟩ = some (.int .i64 exCfg.d) ∧ wc.cell? ⟨N, 1, none⟩ = some (.map (none)) ∧ wc.cell? ⟨N, 2, none⟩ = some (.int .i64 exCfg.q) ∧ wc.cell? ⟨N, 3, none⟩ = some (.int .i64 exCfg.at') ∧ wc.cell? ⟨N, 4, none⟩ = some (.int .i64 exCfg.ba) ∧ wc.cell? ⟨N, 5, none⟩ = some (.int .i64 exCfg.ca) ∧ wc.cell? ⟨N, 6, none⟩ = some (.int .i64 exCfg.ti) ∧ wc.cell? ⟨N, 7, none⟩ = some (.int .i64 exCfg.wi) ∧ wc.cell? ⟨N, 8, none⟩ = some (.int .i64 exCfg.le) ∧ wc.cell? ⟨N, 9, none⟩ = some (.float .f64 exCfg.th) ∧ wc.cell? ⟨N, 10, none⟩ = some (.int .i64 exCfg.op) := ⟨hKe2.cell 0, hKe2.cell 1, hKe2.cell 2, hKe2.cell 3, hKe2.cell 4, hKe2.cell 5, hKe2.cell 6, hKe2.cell 7, hKe2.cell 8, hKe2.cell 9, hKe2.cell 10⟩
    have HB2 : Hid (Below w.heap.size w wc) := HBV.out.trans (hb2.mono (by omega))
    have HKw2 := hide hKw
    have HM02 := hide hM0
    have Hm02 := hide hm0
    have hNw : N < wc.heap.size := by omega
    have hfar2 := fun (W : World) (o o' : Nat) (v : Value) => cell_far W o o' v (show N ≠ N + 1 by omega)
    clear hKe2 hKw hM0 hm0 hb2 hfar
    generalize hwc : wc = V2 at *
    clear hwc
    go_upto_region 4 with fail
    go_cut [] (fun wx => ∃ b1 n1, Blk wx (N + 1) (wCells c exCfg m0 (some b1) (.slice none 0 0) (.slice none 0 0)) 38 ∧ MapAt wx m0 (DT ts) ∧ OM wx b1 n1 (DT exTs) ∧ n1 ≤ big ∧ Below w.heap.size w wx)
    case first =>
      go_region_held3 (fun w' => w'.cell? ⟨N, 0, none⟩ = some (.int .i64 exCfg.d) ∧ w'.cell? ⟨N, 1, none⟩ = some (.map (none)) ∧ w'.cell? ⟨N, 2, none⟩ = some (.int .i64 exCfg.q) ∧ w'.cell? ⟨N, 3, none⟩ = some (.int .i64 exCfg.at') ∧ w'.cell? ⟨N, 4, none⟩ = some (.int .i64 exCfg.ba) ∧ w'.cell? ⟨N, 5, none⟩ = some (.int .i64 exCfg.ca) ∧ w'.cell? ⟨N, 6, none⟩ = some (.int .i64 exCfg.ti) ∧ w'.cell? ⟨N, 7, none⟩ = some (.int .i64 exCfg.wi) ∧ w'.cell? ⟨N, 8, none⟩ = some (.int .i64 exCfg.le) ∧ w'.cell? ⟨N, 9, none⟩ = some (.float .f64 exCfg.th) ∧ w'.cell? ⟨N, 10, none⟩ = some (.int .i64 exCfg.op)) (go_keep)
        (first
          | (go_at_call 15; refine (config_ex g1 _ (tenAt_drew HE2.out)).mono ?_; rintro e w3 ⟨m1, rfl, hM1, hm1, hb3⟩; have hc3 := fun o => hb3.cell (p := ⟨N, o, none⟩) hNw; have hK3 : Blk w3 (N + 1) _ 38 := Blk.below (w := V2.drew) HKw2.out hb3 HKw2.out.lt; obtain ⟨z0, z1, z2, z3, z4, z5, z6, z7, z8, z9, z10⟩ : w3.cell? ⟨N + 1, 11, none⟩ = some (.int .i64 zeroCfg.d) ∧ w3.cell? ⟨N + 1, 12, none⟩ = some (.map none) ∧ w3.cell? ⟨N + 1, 13, none⟩ = some (.int .i64 zeroCfg.q) ∧ w3.cell? ⟨N + 1, 14, none⟩ = some (.int .i64 zeroCfg.at') ∧ w3.cell? ⟨N + 1, 15, none⟩ = some (.int .i64 zeroCfg.ba) ∧ w3.cell? ⟨N + 1, 16, none⟩ = some (.int .i64 zeroCfg.ca) ∧ w3.cell? ⟨N + 1, 17, none⟩ = some (.int .i64 zeroCfg.ti) ∧ w3.cell? ⟨N + 1, 18, none⟩ = some (.int .i64 zeroCfg.wi) ∧ w3.cell? ⟨N + 1, 19, none⟩ = some (.int .i64 zeroCfg.le) ∧ w3.cell? ⟨N + 1, 20, none⟩ = some (.float .f64 zeroCfg.th) ∧ w3.cell? ⟨N + 1, 21, none⟩ = some (.int .i64 zeroCfg.op) := ⟨hK3.cell 11, hK3.cell 12, hK3.cell 13, hK3.cell 14, hK3.cell 15, hK3.cell 16, hK3.cell 17, hK3.cell 18, hK3.cell 19, hK3.cell 20, hK3.cell 21⟩; have hfz := fun o => hK3.frozen o; have HK3 := hide hK3; have HM1 := hide hM1; have Hm1 := hide hm1; have Hb3 := hide hb3; clear hK3 hM1 hm1 hb3))
      all_goals
        go_wp2_with fail
        go_meet
        generalize hX : (World.setCell (World.setCell (World.setCell (World.setCell (World.setCell (World.setCell (World.setCell (World.setCell (World.setCell (World.setCell (World.setCell w3 _ _) _ _) _ _) _ _) _ _) _ _) _ _) _ _) _ _) _ _) _ _) = X
        have hX' : w3.setCells (N + 1) 11 (exCfg.cells m1).toList = X := hX
        clear hX
        subst hX'
        obtain ⟨b1, n1, rfl, h2, h3⟩ : ∃ b1 n1, m1 = some b1 ∧ OM w3 b1 n1 (DT exTs) ∧ n1 ≤ big := by
          rcases HM1.out with ⟨_, h⟩ | ⟨b, n, h1, h2, h3⟩
          · exact absurd ex_good.2.1.1.1 (by rw [h]; simp [Maps.size])
          · exact ⟨b, n, h1, h2, h3⟩
        have hlt3 : N + 1 < V2.heap.size := HKw2.out.lt
        have hb1 : V2.heap.size ≤ b1 := Hm1.out b1 rfl
        refine ⟨b1, n1, stored11 HK3.out, ?_, ?_, h3, ?_⟩
        · exact mapAt_setCells (HM02.out.below (w' := w3) ((Below.refl V2.heap.size V2).drew.trans Hb3.out) (Nat.le_refl _)) (fun b hb e => by have : V.heap.size ≤ b := Hm02.out b hb; omega) _ 11
        · obtain ⟨es, clock, q1, q2⟩ := h2
          exact ⟨es, clock, by rw [heap_setCells _ 11 (by omega)]; exact q1, q2⟩
        · exact below_setCells (by omega) _ 11 (HB2.out.trans ((Below.refl w.heap.size V2).drew.trans (Hb3.out.mono (show w.heap.size ≤ V2.heap.size by omega))))
    case rest =>
      obtain ⟨b1, n1, hKw3, hM03, hO1, hn1, hB3⟩ := hcut
      generalize hwc : wc = V3 at *
      clear hwc e0 e1 e2 e3 e4 e5 e6 e7 e8 e9 e10 hfar2
      have HN1 : Hid (N + 1 < V3.heap.size) := hKw3.lt
      have hN0 : w.heap.size < N := by have := HNe.out; omega
      have hnm : ∀ (b : Nat), V3.heap[b]? = V3.heap[N + 1]? → ∀ (es : Array MapEntry) (cl : Nat), V3.heap[b]? ≠ some (Obj.map es cl) := fun b hb es cl h => by
        have := hKw3
        unfold Blk at this
        rw [← hb, h] at this
        cases this
      have hlab : ∀ (m : Option Nat) (D : DataW Unit), MapAt V3 m D → ∀ b, m = some b → (fun k => if k = N + 1 then bl 2 0 else none : Labs) b = none := fun m D hm b hb => by
        rcases hm with ⟨e, _⟩ | ⟨b', n', e, ⟨es, cl, q, _⟩, _⟩
        · rw [hb] at e; cases e
        · rw [hb] at e
          cases e
          exact if_neg (fun e => hnm b (by rw [e]) es cl q)
      have hW : WAt V3 (fun k => if k = N + 1 then bl 2 0 else none) (N + 1) A (wCells c exCfg m0 (some b1) (.slice none 0 0) (.slice none 0 0)) (.slice none 0 0) (.slice none 0 0) (.slice none 0 0) 0 0 0 [] := by
        refine ⟨⟨hKw3, by simp⟩, rfl, rfl, rfl, rfl, RowAt.nil _ _ _ _ _, fun i v hv => by simp at hv, ⟨[], RowAt.nil _ _ _ _ _, fun i v hv => by simp at hv⟩, ⟨[], RowAt.nil _ _ _ _ _, fun i v hv => by simp at hv⟩, ⟨HS.out.below hB3, fun i hi => ?_, fun i hi => ?_⟩⟩
        · have := World.block_lt_of_cell? w _ (HS.out.cell i hi)
          exact if_neg (by have h2 : gl.getD i 0 < w.heap.size := this; omega)
        · obtain ⟨cc, tt, hcc⟩ := HS.out.block i hi
          have := (Array.getElem?_eq_some_iff.1 hcc).1
          exact if_neg (by omega)
      have hc1 : CfgAt V3 (fun k => if k = N + 1 then bl 2 0 else none) (wCells c exCfg m0 (some b1) (.slice none 0 0) (.slice none 0 0)) 1 exCfg (some b1) (DT exTs) := ⟨fun j v hv => wCells_one hv, Or.inr ⟨b1, n1, rfl, hO1, hn1⟩, hlab _ _ (Or.inr ⟨b1, n1, rfl, hO1, hn1⟩)⟩
      have hc0 : CfgAt V3 (fun k => if k = N + 1 then bl 2 0 else none) (wCells c exCfg m0 (some b1) (.slice none 0 0) (.slice none 0 0)) 0 c m0 (DT ts) := ⟨fun j v hv => wCells_zero hv, hM03, hlab _ _ hM03⟩
      have HB3 := hide hB3
      have HC0 := hide hc0
      have HO := hide (opened_any _ (N + 1) A 1 1 (by omega) pick_1 _ _ _ _ 0 0 0 [] exCfg (some b1) (DT exTs) V3 hW hc1 (by omega))
      clear hKw3 hM03 hO1 hB3 hnm hlab hW hc1 hc0
      go_wp2_with fail
      refine HO.out.mono ?_
      rintro e V4 ⟨rfl, L4, cur4, pv4, np4, ps4, hW4, _, hnp4, _, hcur4, hS4⟩
      have hc4 : CfgAt V4 L4 cur4 0 c m0 (DT ts) := HC0.out.keep hS4 (by simp [opP]) (fun i hi => hcur4 i (by omega)) (by omega)
      have HS4 := hide hS4
      have HO4 := hide (opened_any L4 (N + 1) A 0 0 (by omega) pick_0 cur4 pv4 _ _ np4 0 0 ps4 c m0 (DT ts) V4 hW4 hc4 (by omega))
      clear hW4 hcur4 hS4 hc4 HO
      go_wp2_with fail
      refine HO4.out.mono ?_
      rintro e V5 ⟨rfl, L5, cur5, pv5, np5, ps5, hW5, _, hnp5, _, hcur5, hS5⟩
      have HS5 := hide hS5
      have HA := hide (asked_any L5 (N + 1) A cur5 pv5 _ _ np5 0 0 ps5 V5 hW5 (by omega) (by omega) (by omega))
      clear hW5 hcur5 hS5 HO4
      go_wp2_with fail
      refine HA.out.mono ?_
      rintro e V6 ⟨rfl, L6, hS6⟩
      have HF : Hid (Below w.heap.size w V6) := by
        have hS : Step someP (fun k => if k = N + 1 then bl 2 0 else none) V3 L6 V6 := ((HS4.out.mono (fun l h => by rcases h with rfl | rfl <;> simp [someP, bl])).trans (HS5.out.mono (fun l h => by rcases h with rfl | rfl <;> simp [someP, bl]))).trans hS6
        refine HB3.out.trans (hS.below (by have := HN1.out; omega) (fun k hk => ?_))
        simp only [someP]
        rw [if_neg (by omega)]
        simp
      clear hS6
      go_wp2_with fail
      go_ret
      exact ⟨rfl, HF.out⟩
end Go.Proofs.YtojpjaifhjigfaaGreatDoor
