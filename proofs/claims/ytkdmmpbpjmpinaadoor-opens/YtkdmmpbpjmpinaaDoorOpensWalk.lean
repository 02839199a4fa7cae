/- conduitlaw.Opens: Open of every configuration, with an empty log. -/
import Derived.Test.YtkdmmpbpjmpinaaDoorAsked
namespace Go.Proofs.YtkdmmpbpjmpinaaDoor
open Go.RowKit Go.Maps
attribute [local go_sem] run_store_float

def zeroCfg : Cfg := { d := 0, q := 0, at' := 0, ba := 0, ca := 0, ti := 0, wi := 0, le := 0, th := 0, op := 0 }
/-- The cells of a World. -/
abbrev wCells (c0 c1 : Cfg) (m0 m1 : Option Nat) (pv tv : Value) : Array Value :=
  #[.int .i64 c0.d, .map m0, .int .i64 c0.q, .int .i64 c0.at', .int .i64 c0.ba, .int .i64 c0.ca, .int .i64 c0.ti, .int .i64 c0.wi, .int .i64 c0.le, .float .f64 c0.th, .int .i64 c0.op,
    .int .i64 c1.d, .map m1, .int .i64 c1.q, .int .i64 c1.at', .int .i64 c1.ba, .int .i64 c1.ca, .int .i64 c1.ti, .int .i64 c1.wi, .int .i64 c1.le, .float .f64 c1.th, .int .i64 c1.op, pv, tv, .slice none 0 0, .slice none 0 0, .int .i64 0]

theorem cell_far (w : World) (o o' : Nat) (v : Value) {b b' : Nat} (h : b ≠ b') : (w.setCell ⟨b', o', none⟩ v).cell? ⟨b, o, none⟩ = w.cell? ⟨b, o, none⟩ := World.cell?_of_block (heap_setCell_other _ _ _ _ h)
theorem mapAt_setCells {m : Option Nat} {D : DataW Unit} {g : Nat} {w : World} (h : MapAt w m D) (hg : ∀ b, m = some b → b ≠ g) (vs : List Value) (o : Nat) : MapAt (w.setCells g o vs) m D := by
  rcases h with h | ⟨b, n, h1, ⟨es, clock, q1, q2⟩, h3⟩
  · exact Or.inl h
  · exact Or.inr ⟨b, n, h1, ⟨es, clock, by rw [heap_setCells _ o (hg b h1)]; exact q1, q2⟩, h3⟩
theorem splice_toList : ∀ (l : List Value) (cs : Array Value) (o : Nat), o + l.length ≤ cs.size → (splice cs o l).toList = cs.toList.take o ++ l ++ cs.toList.drop (o + l.length) := by
  intro l
  induction l with
  | nil => intro cs o _; simp [splice]
  | cons v r ih =>
    intro cs o h
    simp only [splice]
    simp only [List.length_cons] at h
    rw [ih _ _ (by simp; omega)]
    simp only [Array.toList_setIfInBounds, List.length_cons]
    have ho : o < cs.toList.length := by simp; omega
    rw [List.take_succ_eq_append_getElem (by simpa using ho), List.take_set_of_le (Nat.le_refl _), List.drop_set_of_lt (by omega)]
    simp [Nat.add_assoc, Nat.add_comm 1]
theorem splice0 (c0 c1 c : Cfg) (m0 m1 m : Option Nat) (pv tv : Value) : splice (wCells c0 c1 m0 m1 pv tv) 0 (c.cells m).toList = wCells c c1 m m1 pv tv := by
  apply Array.toList_inj.1
  rw [splice_toList _ _ _ (by simp)]
  rfl
theorem splice11 (c0 c1 c : Cfg) (m0 m1 m : Option Nat) (pv tv : Value) : splice (wCells c0 c1 m0 m1 pv tv) 11 (c.cells m).toList = wCells c0 c m0 m pv tv := by
  apply Array.toList_inj.1
  rw [splice_toList _ _ _ (by simp)]
  rfl
theorem stored0 {w : World} {g : Nat} {c0 c1 c : Cfg} {m0 m1 m : Option Nat} {pv tv : Value} (h : Blk w g (wCells c0 c1 m0 m1 pv tv) 43) : Blk (w.setCells g 0 (c.cells m).toList) g (wCells c c1 m m1 pv tv) 43 := by
  have := Blk.setCells (c.cells m).toList 0 h
  rw [splice0] at this
  exact this
theorem stored11 {w : World} {g : Nat} {c0 c1 c : Cfg} {m0 m1 m : Option Nat} {pv tv : Value} (h : Blk w g (wCells c0 c1 m0 m1 pv tv) 43) : Blk (w.setCells g 11 (c.cells m).toList) g (wCells c0 c m0 m pv tv) 43 := by
  have := Blk.setCells (c.cells m).toList 11 h
  rw [splice11] at this
  exact this
theorem tenAt_below {w w' : World} {a : Option Addr} {ts : List (List UInt8 × Int)} (h : TenAt w a ts) (hb : Below w.heap.size w w') : TenAt w' a ts := by
  rcases h with h | ⟨b, off, h1, h2, h3⟩
  · exact Or.inl h
  · refine Or.inr ⟨b, off, h1, Nat.lt_of_lt_of_le h2 hb.size, fun k hk => ?_⟩
    rw [hb.cell (p := ⟨b, _, none⟩) h2, hb.cell (p := ⟨b, _, none⟩) h2]
    exact h3 k hk
theorem tenAt_drew {w : World} {a : Option Addr} {ts : List (List UInt8 × Int)} (h : TenAt w a ts) : TenAt w.drew a ts := tenAt_below h (Below.refl _ _).drew

theorem config_ex (g : Nat) (w : World) (h : TenAt w (some ⟨g, 0, none⟩) exTs) : Calls Tryd.prog 8 #[exCfg.val none, .slice (some ⟨g, 0, none⟩) 2 2] w fun e w' => ∃ m', e = .returned (exCfg.val m') ∧ MapAt w' m' (DT exTs) ∧ (∀ b, m' = some b → w.heap.size ≤ b) ∧ Below w.heap.size w w' :=
  config_any exCfg none (some ⟨g, 0, none⟩) 2 exTs w ex_ok h

set_option maxRecDepth 100000 in
set_option maxHeartbeats 2000000 in
theorem opens_any (A : Nat → Addr) (c : Cfg) (m : Option Nat) (la : Option Addr) (lk : Nat) (ts : List (List UInt8 × Int)) (w : World) (hS : Sents.Holds w 121 0 11 A) (hok : TenOk ts) (hT : TenAt w la ts) :
    Calls Tryd.prog 4 #[c.val m, .slice la ts.length lk] w fun e w' => e = .returned (.bool true) ∧ Below w.heap.size w w' := by
  have HS := hide hS
  have HT := hide hT
  clear hS hT
  go_enter Tryd.func4, Tryd.ntmps4
  go_wp2_with fail
  refine (example_any _).mono ?_
  rintro e w1 ⟨g1, rfl, hE, hb1⟩
  have HK1 : Hid (Blk w1 w.heap.size (c.cells m) 30) := (Blk.new w _ _).below hb1 (by simp)
  have Hb1 : Hid (Below w.heap.size w w1) := ((Below.refl _ _).alloc (Nat.le_refl _) _).trans (hb1.mono (by simp))
  have HE := hide hE
  have hz1 : w.heap.size < w1.heap.size := HK1.out.lt
  clear hb1 hE
  go_upto_region 3 with fail
  generalize hV : World.alloc (World.alloc w1 _) _ = V
  have hKw : Blk V (w1.heap.size + 1) (wCells zeroCfg zeroCfg none none (.slice none 0 0) (.slice none 0 0)) 43 := by rw [← hV]; exact Blk.made (by simp) _ _
  have hKe : Blk V w1.heap.size (exCfg.cells none) 30 := by rw [← hV]; exact (Blk.new w1 _ _).alloc _
  have hbV : Below w1.heap.size w1 V := by rw [← hV]; exact ((Below.refl _ _).alloc (Nat.le_refl _) _).alloc (by simp) _
  have hKc : Blk V w.heap.size (c.cells m) 30 := HK1.out.below hbV hz1
  have hBV : Below w.heap.size w V := Hb1.out.trans (hbV.mono (by omega))
  have HTV : Hid (TenAt V la ts) := tenAt_below HT.out hBV
  have HbV := hide hbV
  generalize hN : w1.heap.size = N at *
  have HNe := hide hN
  obtain ⟨e0, e1, e2, e3, e4, e5, e6, e7, e8, e9, e10⟩ : V.cell? ⟨w.heap.size, 0, none⟩ = some (.int .i64 c.d) ∧ V.cell? ⟨w.heap.size, 1, none⟩ = some (.map (m)) ∧ V.cell? ⟨w.heap.size, 2, none⟩ = some (.int .i64 c.q) ∧ V.cell? ⟨w.heap.size, 3, none⟩ = some (.int .i64 c.at') ∧ V.cell? ⟨w.heap.size, 4, none⟩ = some (.int .i64 c.ba) ∧ V.cell? ⟨w.heap.size, 5, none⟩ = some (.int .i64 c.ca) ∧ V.cell? ⟨w.heap.size, 6, none⟩ = some (.int .i64 c.ti) ∧ V.cell? ⟨w.heap.size, 7, none⟩ = some (.int .i64 c.wi) ∧ V.cell? ⟨w.heap.size, 8, none⟩ = some (.int .i64 c.le) ∧ V.cell? ⟨w.heap.size, 9, none⟩ = some (.float .f64 c.th) ∧ V.cell? ⟨w.heap.size, 10, none⟩ = some (.int .i64 c.op) := ⟨hKc.cell 0, hKc.cell 1, hKc.cell 2, hKc.cell 3, hKc.cell 4, hKc.cell 5, hKc.cell 6, hKc.cell 7, hKc.cell 8, hKc.cell 9, hKc.cell 10⟩
  have HKw := hide hKw
  have HKe := hide hKe
  have HBV := hide hBV
  have hVl : w.heap.size < V.heap.size := hKc.lt
  have hVw : N + 1 < V.heap.size := hKw.lt
  have hfar := fun (W : World) (o o' : Nat) (v : Value) => cell_far W o o' v (show w.heap.size ≠ N + 1 by omega)
  clear hV hN hKw hKe hbV hKc hBV HK1
  go_cut [] (fun wx => ∃ m0, Blk wx (N + 1) (wCells c zeroCfg m0 none (.slice none 0 0) (.slice none 0 0)) 43 ∧ MapAt wx m0 (DT ts) ∧ (∀ b, m0 = some b → V.heap.size ≤ b) ∧ Below (N + 1) V wx)
  case first =>
    go_region_held3 (fun w' => w'.cell? ⟨w.heap.size, 0, none⟩ = some (.int .i64 c.d) ∧ w'.cell? ⟨w.heap.size, 1, none⟩ = some (.map (m)) ∧ w'.cell? ⟨w.heap.size, 2, none⟩ = some (.int .i64 c.q) ∧ w'.cell? ⟨w.heap.size, 3, none⟩ = some (.int .i64 c.at') ∧ w'.cell? ⟨w.heap.size, 4, none⟩ = some (.int .i64 c.ba) ∧ w'.cell? ⟨w.heap.size, 5, none⟩ = some (.int .i64 c.ca) ∧ w'.cell? ⟨w.heap.size, 6, none⟩ = some (.int .i64 c.ti) ∧ w'.cell? ⟨w.heap.size, 7, none⟩ = some (.int .i64 c.wi) ∧ w'.cell? ⟨w.heap.size, 8, none⟩ = some (.int .i64 c.le) ∧ w'.cell? ⟨w.heap.size, 9, none⟩ = some (.float .f64 c.th) ∧ w'.cell? ⟨w.heap.size, 10, none⟩ = some (.int .i64 c.op)) (go_keep)
      (first
        | (go_at_call 8; refine (config_any c m la lk ts _ hok (tenAt_drew HTV.out)).mono ?_; rintro e w2 ⟨m0, rfl, hM0, hm0, hb2⟩; have hc2 := fun o => hb2.cell (p := ⟨w.heap.size, o, none⟩) hVl; have hK2 : Blk w2 (N + 1) _ 43 := Blk.below (w := V.drew) HKw.out hb2 hVw; obtain ⟨z0, z1, z2, z3, z4, z5, z6, z7, z8, z9, z10⟩ : w2.cell? ⟨N + 1, 0, none⟩ = some (.int .i64 zeroCfg.d) ∧ w2.cell? ⟨N + 1, 1, none⟩ = some (.map (none)) ∧ w2.cell? ⟨N + 1, 2, none⟩ = some (.int .i64 zeroCfg.q) ∧ w2.cell? ⟨N + 1, 3, none⟩ = some (.int .i64 zeroCfg.at') ∧ w2.cell? ⟨N + 1, 4, none⟩ = some (.int .i64 zeroCfg.ba) ∧ w2.cell? ⟨N + 1, 5, none⟩ = some (.int .i64 zeroCfg.ca) ∧ w2.cell? ⟨N + 1, 6, none⟩ = some (.int .i64 zeroCfg.ti) ∧ w2.cell? ⟨N + 1, 7, none⟩ = some (.int .i64 zeroCfg.wi) ∧ w2.cell? ⟨N + 1, 8, none⟩ = some (.int .i64 zeroCfg.le) ∧ w2.cell? ⟨N + 1, 9, none⟩ = some (.float .f64 zeroCfg.th) ∧ w2.cell? ⟨N + 1, 10, none⟩ = some (.int .i64 zeroCfg.op) := ⟨hK2.cell 0, hK2.cell 1, hK2.cell 2, hK2.cell 3, hK2.cell 4, hK2.cell 5, hK2.cell 6, hK2.cell 7, hK2.cell 8, hK2.cell 9, hK2.cell 10⟩; have hfz := fun o => hK2.frozen o; have HK2 := hide hK2; have HM0 := hide hM0; have Hm0 := hide hm0; have Hb2 := hide hb2; clear hK2 hM0 hm0 hb2))
    all_goals
      go_wp2_with fail
      go_meet
      generalize hX : (World.setCell (World.setCell (World.setCell (World.setCell (World.setCell (World.setCell (World.setCell (World.setCell (World.setCell (World.setCell (World.setCell w2 _ _) _ _) _ _) _ _) _ _) _ _) _ _) _ _) _ _) _ _) _ _) = X
      have hX' : w2.setCells (N + 1) 0 (c.cells m0).toList = X := hX
      clear hX
      subst hX'
      exact ⟨m0, stored0 HK2.out, mapAt_setCells HM0.out (fun b hb e => by have : V.heap.size ≤ b := Hm0.out b hb; omega) _ 0, Hm0.out, below_setCells (Nat.le_refl _) _ 0 ((Below.refl (N + 1) V).drew.trans (Hb2.out.mono (Nat.le_of_lt hVw)))⟩
  case rest =>
    obtain ⟨m0, hKw, hM0, hm0, hb2⟩ := hcut
    have hV2 : V.heap.size ≤ wc.heap.size := hb2.size
    have hKe2 : Blk wc N (exCfg.cells none) 30 := HKe.out.below hb2 (by omega)
    have HE2 : Hid (TenAt wc (some ⟨g1, 0, none⟩) exTs) := tenAt_below HE.out (by rw [HNe.out]; exact HbV.out.trans (hb2.mono (by omega)))
    clear e0 e1 e2 e3 e4 e5 e6 e7 e8 e9 e10
    obtain ⟨e0, e1, e2, e3, e4, e5, e6, e7, e8, e9, e10⟩ : wc.cell? ⟨N, 0, none⟩ = some (.int .i64 exCfg.d) ∧ wc.cell? ⟨N, 1, none⟩ = some (.map (none)) ∧ wc.cell? ⟨N, 2, none⟩ = some (.int .i64 exCfg.q) ∧ wc.cell? ⟨N, 3, none⟩ = some (.int .i64 exCfg.at') ∧ wc.cell? ⟨N, 4, none⟩ = some (.int .i64 exCfg.ba) ∧ wc.cell? ⟨N, 5, none⟩ = some (.int .i64 exCfg.ca) ∧ wc.cell? ⟨N, 6, none⟩ = some (.int .i64 exCfg.ti) ∧ wc.cell? ⟨N, 7, none⟩ = some (.int .i64 exCfg.wi) ∧ wc.cell? ⟨N, 8, none⟩ = some (.int .i64 exCfg.le) ∧ wc.cell? ⟨N, 9, none⟩ = some (.float .f64 exCfg.th) ∧ wc.cell? ⟨N, 10, none⟩ = some (.int .i64 exCfg.op) := ⟨hKe2.cell 0, hKe2.cell 1, hKe2.cell 2, hKe2.cell 3, hKe2.cell 4, hKe2.cell 5, hKe2.cell 6, hKe2.cell 7, hKe2.cell 8, hKe2.cell 9, hKe2.cell 10⟩
    have HB2 : Hid (Below w.heap.size w wc) := HBV.out.trans (hb2.mono (by omega))
    have HKw2 := hide hKw
    have HM02 := hide hM0
    have Hm02 := hide hm0
    have hNw : N < wc.heap.size := by omega
    have hfar2 := fun (W : World) (o o' : Nat) (v : Value) => cell_far W o o' v (show N ≠ N + 1 by omega)
    clear hKe2 hKw hM0 hm0 hb2 hfar
    generalize hwc : wc = V2 at *
    clear hwc
    go_upto_region 4 with fail
    go_cut [] (fun wx => ∃ b1 n1, Blk wx (N + 1) (wCells c exCfg m0 (some b1) (.slice none 0 0) (.slice none 0 0)) 43 ∧ MapAt wx m0 (DT ts) ∧ OM wx b1 n1 (DT exTs) ∧ n1 ≤ big ∧ Below w.heap.size w wx)
    case first =>
      go_region_held3 (fun w' => w'.cell? ⟨N, 0, none⟩ = some (.int .i64 exCfg.d) ∧ w'.cell? ⟨N, 1, none⟩ = some (.map (none)) ∧ w'.cell? ⟨N, 2, none⟩ = some (.int .i64 exCfg.q) ∧ w'.cell? ⟨N, 3, none⟩ = some (.int .i64 exCfg.at') ∧ w'.cell? ⟨N, 4, none⟩ = some (.int .i64 exCfg.ba) ∧ w'.cell? ⟨N, 5, none⟩ = some (.int .i64 exCfg.ca) ∧ w'.cell? ⟨N, 6, none⟩ = some (.int .i64 exCfg.ti) ∧ w'.cell? ⟨N, 7, none⟩ = some (.int .i64 exCfg.wi) ∧ w'.cell? ⟨N, 8, none⟩ = some (.int .i64 exCfg.le) ∧ w'.cell? ⟨N, 9, none⟩ = some (.float .f64 exCfg.th) ∧ w'.cell? ⟨N, 10, none⟩ = some (.int .i64 exCfg.op)) (go_keep)
        (first
          | (go_at_call 8; refine (config_ex g1 _ (tenAt_drew HE2.out)).mono ?_; rintro e w3 ⟨m1, rfl, hM1, hm1, hb3⟩; have hc3 := fun o => hb3.cell (p := ⟨N, o, none⟩) hNw; have hK3 : Blk w3 (N + 1) _ 43 := Blk.below (w := V2.drew) HKw2.out hb3 HKw2.out.lt; obtain ⟨z0, z1, z2, z3, z4, z5, z6, z7, z8, z9, z10⟩ : w3.cell? ⟨N + 1, 11, none⟩ = some (.int .i64 zeroCfg.d) ∧ w3.cell? ⟨N + 1, 12, none⟩ = some (.map none) ∧ w3.cell? ⟨N + 1, 13, none⟩ = some (.int .i64 zeroCfg.q) ∧ w3.cell? ⟨N + 1, 14, none⟩ = some (.int .i64 zeroCfg.at') ∧ w3.cell? ⟨N + 1, 15, none⟩ = some (.int .i64 zeroCfg.ba) ∧ w3.cell? ⟨N + 1, 16, none⟩ = some (.int .i64 zeroCfg.ca) ∧ w3.cell? ⟨N + 1, 17, none⟩ = some (.int .i64 zeroCfg.ti) ∧ w3.cell? ⟨N + 1, 18, none⟩ = some (.int .i64 zeroCfg.wi) ∧ w3.cell? ⟨N + 1, 19, none⟩ = some (.int .i64 zeroCfg.le) ∧ w3.cell? ⟨N + 1, 20, none⟩ = some (.float .f64 zeroCfg.th) ∧ w3.cell? ⟨N + 1, 21, none⟩ = some (.int .i64 zeroCfg.op) := ⟨hK3.cell 11, hK3.cell 12, hK3.cell 13, hK3.cell 14, hK3.cell 15, hK3.cell 16, hK3.cell 17, hK3.cell 18, hK3.cell 19, hK3.cell 20, hK3.cell 21⟩; have hfz := fun o => hK3.frozen o; have HK3 := hide hK3; have HM1 := hide hM1; have Hm1 := hide hm1; have Hb3 := hide hb3; clear hK3 hM1 hm1 hb3))
      all_goals
        go_wp2_with fail
        go_meet
        generalize hX : (World.setCell (World.setCell (World.setCell (World.setCell (World.setCell (World.setCell (World.setCell (World.setCell (World.setCell (World.setCell (World.setCell w3 _ _) _ _) _ _) _ _) _ _) _ _) _ _) _ _) _ _) _ _) _ _) = X
        have hX' : w3.setCells (N + 1) 11 (exCfg.cells m1).toList = X := hX
        clear hX
        subst hX'
        obtain ⟨b1, n1, rfl, h2, h3⟩ : ∃ b1 n1, m1 = some b1 ∧ OM w3 b1 n1 (DT exTs) ∧ n1 ≤ big := by
          rcases HM1.out with ⟨_, h⟩ | ⟨b, n, h1, h2, h3⟩
          · exact absurd ex_good.2.1.1.1 (by rw [h]; simp [Maps.size])
          · exact ⟨b, n, h1, h2, h3⟩
        have hlt3 : N + 1 < V2.heap.size := HKw2.out.lt
        have hb1 : V2.heap.size ≤ b1 := Hm1.out b1 rfl
        refine ⟨b1, n1, stored11 HK3.out, ?_, ?_, h3, ?_⟩
        · exact mapAt_setCells (HM02.out.below (w' := w3) ((Below.refl V2.heap.size V2).drew.trans Hb3.out) (Nat.le_refl _)) (fun b hb e => by have : V.heap.size ≤ b := Hm02.out b hb; omega) _ 11
        · obtain ⟨es, clock, q1, q2⟩ := h2
          exact ⟨es, clock, by rw [heap_setCells _ 11 (by omega)]; exact q1, q2⟩
        · exact below_setCells (by omega) _ 11 (HB2.out.trans ((Below.refl w.heap.size V2).drew.trans (Hb3.out.mono (show w.heap.size ≤ V2.heap.size by omega))))
    case rest =>
      obtain ⟨b1, n1, hKw3, hM03, hO1, hn1, hB3⟩ := hcut
      generalize hwc : wc = V3 at *
      clear hwc e0 e1 e2 e3 e4 e5 e6 e7 e8 e9 e10 hfar2
      have hrow3 : V3.ownsRow (N + 1 + 1) 55 1 (.slice none 0 0) 0 [] := ⟨rfl, Or.inl ⟨rfl, rfl⟩⟩
      have HO := hide (opened_good 1 (N + 1) (by omega) exCfg b1 n1 (DT exTs) _ none 0 0 [] V3 hO1 hn1 ex_good hKw3 rfl hrow3 (by omega) ⟨hKw3.cell (1 * 11), hKw3.cell (1 * 11 + 1), hKw3.cell (1 * 11 + 2), hKw3.cell (1 * 11 + 3), hKw3.cell (1 * 11 + 4), hKw3.cell (1 * 11 + 5), hKw3.cell (1 * 11 + 6), hKw3.cell (1 * 11 + 7), hKw3.cell (1 * 11 + 8), hKw3.cell (1 * 11 + 9), hKw3.cell (1 * 11 + 10)⟩)
      have HKw3 := hide hKw3
      have HM03 := hide hM03
      have HO1 := hide hO1
      have HB3 := hide hB3
      have hN3 : N + 1 < V3.heap.size := hKw3.lt
      clear hKw3 hM03 hO1 hB3 hrow3
      go_wp2_with fail
      refine HO.out.mono ?_
      rintro e V4 ⟨rfl, gp1, pa1, pk1, hKw4, hrow4, hPair1, hKept⟩
      have HKw4 : Hid (Blk V4 (N + 1) (wCells c exCfg m0 (some b1) (.slice pa1 1 pk1) (.slice none 0 0)) 43) := hKw4
      have HR4 : Hid (V4.ownsRow (N + 1 + 1) 55 1 (.slice pa1 1 pk1) 1 [.pointer (some ⟨gp1, 0, none⟩)]) := hrow4
      have HP1 := hide hPair1
      have hz4 : V3.heap.size ≤ V4.heap.size := hKept.size
      have HB34 : Hid (Below (N + 1) V3 V4) := ⟨hKept.os, hKept.tape, hKept.output, hKept.size, fun q hq => hKept.block q (by omega) (by omega) (by simp [Value.ownBlock])⟩
      have HB4 : Hid (Below w.heap.size w V4) := HB3.out.trans (HB34.out.mono (by omega))
      have HM04 : Hid (MapAt V4 m0 (DT ts)) := by
        rcases HM03.out with h | ⟨b, n, h1, ⟨es, clock, q1, q2⟩, h3⟩
        · exact Or.inl h
        · refine Or.inr ⟨b, n, h1, ⟨es, clock, ?_, q2⟩, h3⟩
          have hbl : b < V3.heap.size := (Array.getElem?_eq_some_iff.1 q1).1
          rw [hKept.block b hbl (fun e => by have := HKw3.out; unfold Blk at this; rw [← e, q1] at this; cases this) (by simp [Value.ownBlock])]
          exact q1
      have HS4 : Hid (Sents.Holds V4 121 0 11 A) := HS.out.below HB4.out
      have HSt : Hid (StrsOK (DT ts)) := fun ss hp => perm_strs hp HM04.out
      have HSe : Hid (StrsOK (DT exTs)) := fun ss hp => perm_strs (m := some b1) hp (Or.inr ⟨b1, n1, rfl, HO1.out, hn1⟩)
      clear hKw4 hrow4 hPair1 hKept HO
      go_wp2_with fail
      by_cases hg : GoodC c (DT ts)
      · obtain ⟨b0, n0, rfl, h2, h3⟩ : ∃ b0 n0, m0 = some b0 ∧ OM V4 b0 n0 (DT ts) ∧ n0 ≤ big := by
          rcases HM04.out with ⟨_, h⟩ | ⟨b, n, h1, h2, h3⟩
          · exact absurd hg.2.1.1.1 (by rw [h]; simp [Maps.size])
          · exact ⟨b, n, h1, h2, h3⟩
        have HO := hide (opened_good 0 (N + 1) (by omega) c b0 n0 (DT ts) _ pa1 1 pk1 [.pointer (some ⟨gp1, 0, none⟩)] V4 h2 h3 hg HKw4.out rfl HR4.out (by omega) ⟨HKw4.out.cell (0 * 11), HKw4.out.cell (0 * 11 + 1), HKw4.out.cell (0 * 11 + 2), HKw4.out.cell (0 * 11 + 3), HKw4.out.cell (0 * 11 + 4), HKw4.out.cell (0 * 11 + 5), HKw4.out.cell (0 * 11 + 6), HKw4.out.cell (0 * 11 + 7), HKw4.out.cell (0 * 11 + 8), HKw4.out.cell (0 * 11 + 9), HKw4.out.cell (0 * 11 + 10)⟩)
        clear h2 hg
        refine HO.out.mono ?_
        rintro e V5 ⟨rfl, gp0, pa0, pk0, hKw5, hrow5, hPair0, hKept⟩
        have hB45 : Below (N + 1) V4 V5 := ⟨hKept.os, hKept.tape, hKept.output, hKept.size, fun q hq => hKept.block q (by have := HKw4.out.lt; omega) (by omega) (fun e => by have := (HR4.out.lt q e.symm).1; omega)⟩
        have hP1 : PairAt V5 V3.heap.size gp1 exCfg (some b1) (DT exTs) := pairAt_keep HP1.out (fun q cu t hq hb ht => by
          unfold Blk
          rw [hKept.block q hb.lt (by omega) (fun e => by
            rcases HR4.out.2 with ⟨h1, _⟩ | ⟨g, cap, cur', h1, _, h3, _⟩
            · rw [h1] at e; cases e
            · rw [h1] at e
              have e' : q = g := by simpa [Value.ownBlock] using e
              subst e'
              exact Blk.notT (cur' := cur') (t' := 55) hb (by rcases ht with rfl | rfl | rfl <;> decide) h3)]
          exact hb)
        have hPs : PairsOK V5 (N + 1) ([.pointer (some ⟨gp1, 0, none⟩)] ++ [.pointer (some ⟨gp0, 0, none⟩)]) := fun i v hv => by
          match i, hv with
          | 0, hv => simp at hv; subst hv; exact ⟨_, _, _, _, _, rfl, hN3, hP1, HSe.out⟩
          | 1, hv => simp at hv; subst hv; exact ⟨_, _, _, _, _, rfl, by omega, hPair0, HSt.out⟩
          | i + 2, hv => simp at hv
        have HA := hide (asked_any (N + 1) 2 pa0 pk0 _ _ V5 hKw5 rfl rfl rfl rfl hrow5 hPs (by omega))
        have HB5 : Hid (Below w.heap.size w V5) := HB4.out.trans (hB45.mono (by omega))
        clear hKw5 hrow5 hPair0 hKept hB45 hP1 hPs HO
        go_wp2_with fail
        refine HA.out.mono ?_
        rintro e V6 ⟨rfl, hb6⟩
        have Hb6 := hide hb6
        clear hb6
        go_wp2_with fail
        go_ret
        exact ⟨rfl, HB5.out.trans (Hb6.out.mono (by omega))⟩
      · have HO := hide (opened_bad 0 (N + 1) (by omega) A c m0 (DT ts) V4 HS4.out HM04.out hg ⟨HKw4.out.cell (0 * 11), HKw4.out.cell (0 * 11 + 1), HKw4.out.cell (0 * 11 + 2), HKw4.out.cell (0 * 11 + 3), HKw4.out.cell (0 * 11 + 4), HKw4.out.cell (0 * 11 + 5), HKw4.out.cell (0 * 11 + 6), HKw4.out.cell (0 * 11 + 7), HKw4.out.cell (0 * 11 + 8), HKw4.out.cell (0 * 11 + 9), HKw4.out.cell (0 * 11 + 10)⟩)
        clear hg
        refine HO.out.mono ?_
        rintro e V5 ⟨rfl, hb5⟩
        have hP1 : PairAt V5 V3.heap.size gp1 exCfg (some b1) (DT exTs) := pairAt_keep HP1.out (fun q cu t hq hb ht => hb.below hb5 hb.lt)
        have hPs : PairsOK V5 (N + 1) [.pointer (some ⟨gp1, 0, none⟩)] := fun i v hv => by
          match i, hv with
          | 0, hv => simp at hv; subst hv; exact ⟨_, _, _, _, _, rfl, hN3, hP1, HSe.out⟩
          | i + 1, hv => simp at hv
        have HA := hide (asked_any (N + 1) 1 pa1 pk1 _ _ V5 (HKw4.out.below hb5 HKw4.out.lt) rfl rfl rfl rfl (ownsRow_below HR4.out hb5) hPs (by omega))
        have HB5 : Hid (Below w.heap.size w V5) := HB4.out.trans (hb5.mono HB4.out.size)
        clear hb5 hP1 hPs HO
        go_wp2_with fail
        refine HA.out.mono ?_
        rintro e V6 ⟨rfl, hb6⟩
        have Hb6 := hide hb6
        clear hb6
        go_wp2_with fail
        go_ret
        exact ⟨rfl, HB5.out.trans (Hb6.out.mono (by omega))⟩
end Go.Proofs.YtkdmmpbpjmpinaaDoor
