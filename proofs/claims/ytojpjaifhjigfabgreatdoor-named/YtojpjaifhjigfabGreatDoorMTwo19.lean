/- Steps of the proof (several texts in one): KeepMade, KeepGood, Run, Run2. -/
import Derived.Test.YtojpjaifhjigfabGreatDoorMTwo18
import Derived.Laws.ResultCell

/- conduitkeep.made: a configuration of numbers. -/
namespace Go.Proofs.YtojpjaifhjigfabGreatDoor
open Go.RowKit Go.Maps
attribute [local go_sem] run_store_float

/-- The thresholds: quarters. -/
def quarter (k : Nat) : Nat := [4598175219545276416, 4602678819172646912, 4604930618986332160, 4607182418800017408].getD k 0
/-- The configuration that is made of numbers. -/
def madeC (zs : List Int) : Cfg :=
  { d := 1 + pickN (zs.getD 0 0) 3, q := 100, at' := 1 + pickN (zs.getD 1 0) 5, ba := 1 + pickN (zs.getD 2 0) 50, ca := 1 + pickN (zs.getD 2 0) 50 + pickN (zs.getD 6 0) 300, ti := 1 + pickN (zs.getD 3 0) 80, wi := 1 + pickN (zs.getD 4 0) 8, le := 1 + pickN (zs.getD 7 0) (1 + pickN (zs.getD 4 0) 8), th := quarter (pickN (zs.getD 8 0) 4), op := 1 + pickN (zs.getD 5 0) 200 }
/-- Its tenants. -/
def madeT (zs : List Int) (k : Nat) : List (List UInt8 × Int) := (List.range k).map fun i => (kn.getD i [], 64 + (pickN (zs.getD (10 + i) 0) 400 : Int))
theorem madeT_succ (zs : List Int) (k : Nat) : madeT zs (k + 1) = madeT zs k ++ [(kn.getD k [], 64 + (pickN (zs.getD (10 + k) 0) 400 : Int))] := by simp [madeT, List.range_succ]

theorem kraw_at (a : Option Addr) (cap : Nat) (zs : List Int) (i : Nat) (j : Int) (hj : j = i) (w : World) (h : IntsAt w a zs) : Calls Tryz.prog 17 #[.slice a zs.length cap, .int .i64 j] w fun e w' => e = .returned (.int .i64 (zs.getD i 0)) ∧ w' = w := by
  subst hj; exact kraw_any a cap zs i w h
theorem kpick_at (zs : List Int) (h : ∀ z ∈ zs, InR z) (i n : Nat) (m : Int) (hm : m = n) (hn : 0 < n) (w : World) : Calls Tryz.prog 16 #[.int .i64 (zs.getD i 0), .int .i64 m] w fun e w' => e = .returned (.int .i64 (pickN (zs.getD i 0) n)) ∧ w' = w := by
  subst hm; exact kpick_any _ n w (rawN_in h i).1 (rawN_in h i).2 hn

/-- The configuration while it is being made. -/
structure MadeAt (w wx : World) (cs : Array Value) : Prop where
  c : Blk wx (w.heap.size + 1) cs 30
  r : ∃ cs', Blk wx w.heap.size cs' 30 ∧ cs'.size = 11
  b : Below w.heap.size w wx
  s : wx.heap.size = w.heap.size + 2
theorem MadeAt.drew {w wx : World} {cs : Array Value} (h : MadeAt w wx cs) : MadeAt w wx.drew cs := ⟨h.c, h.r, h.b.drew, h.s⟩
theorem MadeAt.set {w wx : World} {cs : Array Value} (h : MadeAt w wx cs) (k : Nat) (v : Value) : MadeAt w (wx.setCell ⟨w.heap.size + 1, k, none⟩ v) (cs.setIfInBounds k v) := by
  obtain ⟨cs', h1, h2⟩ := h.r
  exact ⟨h.c.set k v, ⟨cs', h1.other _ _ (by simp), h2⟩, h.b.setCell (by simp) _, (World.size_setCell _ _ _).trans h.s⟩

theorem MadeAt.set2 {w wx : World} {cs : Array Value} (h : MadeAt w wx cs) (k : Nat) (v : Value) (cs2 : Array Value) (e : cs.toList.set k v = cs2.toList) : MadeAt w (wx.setCell ⟨w.heap.size + 1, k, none⟩ v) cs2 := by
  have := h.set k v
  have e2 : cs.setIfInBounds k v = cs2 := by apply Array.ext'; rw [Array.toList_setIfInBounds]; exact e
  rw [e2] at this
  exact this
theorem quarter_eq {p : Nat} (h : p < 4) : floatBits .quo .f64 (floatOfInt .f64 (1 + (p : Int))) 4616189618054758400 = some (quarter p) := by
  rcases (by omega : p = 0 ∨ p = 1 ∨ p = 2 ∨ p = 3) with rfl | rfl | rfl | rfl
  · kernel_rfl
  · kernel_rfl
  · kernel_rfl
  · kernel_rfl

set_option maxRecDepth 100000 in
set_option maxHeartbeats 1000000 in
theorem made_any (la : Option Addr) (cap : Nat) (zs : List Int) (w : World) (hr : ∀ z ∈ zs, InR z) (h : IntsAt w la zs) :
    Calls Tryz.prog 9 #[.slice la zs.length cap] w fun e w' => ∃ b, e = .returned ((madeC zs).val (some b)) ∧ w.heap.size ≤ b ∧ (∃ n, n ≤ 4 ∧ OM w' b n (DT (madeT zs (1 + pickN (zs.getD 9 0) 4)))) ∧ Below w.heap.size w w' := by
  obtain ⟨Z, hZ⟩ : ∃ Z : Nat → Int, ∀ i, zs.getD i 0 = Z i := ⟨_, fun _ => rfl⟩
  have HRaw : Hid (∀ (i : Nat) (j : Int) w', j = i → Below w.heap.size w w' → Calls Tryz.prog 17 #[.slice la zs.length cap, .int .i64 j] w' fun e w1 => e = .returned (.int .i64 (Z i)) ∧ w' = w1) := fun i j w' hj hb => by rw [← hZ]; exact (kraw_at la cap zs i j hj w' (h.below hb)).mono (fun e w1 h => ⟨h.1, h.2.symm⟩)
  have HPick : Hid (∀ (i n : Nat) (m : Int) w', m = n → 0 < n → Calls Tryz.prog 16 #[.int .i64 (Z i), .int .i64 m] w' fun e w1 => e = .returned (.int .i64 (pickN (Z i) n)) ∧ w' = w1) := fun i n m w' hm hn => by rw [← hZ]; exact (kpick_at zs hr i n m hm hn w').mono (fun e w1 h => ⟨h.1, h.2.symm⟩)
  have HB0 : Hid (∀ o, Below w.heap.size w (w.alloc o)) := fun o => (Below.refl _ _).alloc (Nat.le_refl _) o
  have hmm := @run_makeMap Tryz.prog
  have HT : Hid (∀ k, madeT zs (k + 1) = madeT zs k ++ [(kn.getD k [], 64 + (pickN (Z (10 + k)) 400 : Int))]) := fun k => by rw [← hZ]; exact madeT_succ zs k
  clear h hr
  unfold madeC
  simp only [hZ]
  clear hZ
  have HP0 : Hid (∀ w', Calls Tryz.prog 16 #[.int .i64 (Z 0), .int .i64 3] w' fun e w1 => e = .returned (.int .i64 (pickN (Z 0) 3)) ∧ w' = w1) := fun w' => HPick.out 0 3 3 w' rfl (by omega)
  have hp0 : pickN (Z 0) 3 < 3 := pickN_lt _ (by omega)
  have HP1 : Hid (∀ w', Calls Tryz.prog 16 #[.int .i64 (Z 1), .int .i64 5] w' fun e w1 => e = .returned (.int .i64 (pickN (Z 1) 5)) ∧ w' = w1) := fun w' => HPick.out 1 5 5 w' rfl (by omega)
  have hp1 : pickN (Z 1) 5 < 5 := pickN_lt _ (by omega)
  have HP2 : Hid (∀ w', Calls Tryz.prog 16 #[.int .i64 (Z 2), .int .i64 50] w' fun e w1 => e = .returned (.int .i64 (pickN (Z 2) 50)) ∧ w' = w1) := fun w' => HPick.out 2 50 50 w' rfl (by omega)
  have hp2 : pickN (Z 2) 50 < 50 := pickN_lt _ (by omega)
  have HP3 : Hid (∀ w', Calls Tryz.prog 16 #[.int .i64 (Z 3), .int .i64 80] w' fun e w1 => e = .returned (.int .i64 (pickN (Z 3) 80)) ∧ w' = w1) := fun w' => HPick.out 3 80 80 w' rfl (by omega)
  have hp3 : pickN (Z 3) 80 < 80 := pickN_lt _ (by omega)
  have HP4 : Hid (∀ w', Calls Tryz.prog 16 #[.int .i64 (Z 4), .int .i64 8] w' fun e w1 => e = .returned (.int .i64 (pickN (Z 4) 8)) ∧ w' = w1) := fun w' => HPick.out 4 8 8 w' rfl (by omega)
  have hp4 : pickN (Z 4) 8 < 8 := pickN_lt _ (by omega)
  have HP5 : Hid (∀ w', Calls Tryz.prog 16 #[.int .i64 (Z 5), .int .i64 200] w' fun e w1 => e = .returned (.int .i64 (pickN (Z 5) 200)) ∧ w' = w1) := fun w' => HPick.out 5 200 200 w' rfl (by omega)
  have hp5 : pickN (Z 5) 200 < 200 := pickN_lt _ (by omega)
  have HP6 : Hid (∀ w', Calls Tryz.prog 16 #[.int .i64 (Z 6), .int .i64 300] w' fun e w1 => e = .returned (.int .i64 (pickN (Z 6) 300)) ∧ w' = w1) := fun w' => HPick.out 6 300 300 w' rfl (by omega)
  have hp6 : pickN (Z 6) 300 < 300 := pickN_lt _ (by omega)
  have HP8 : Hid (∀ w', Calls Tryz.prog 16 #[.int .i64 (Z 8), .int .i64 4] w' fun e w1 => e = .returned (.int .i64 (pickN (Z 8) 4)) ∧ w' = w1) := fun w' => HPick.out 8 4 4 w' rfl (by omega)
  have hp8 : pickN (Z 8) 4 < 4 := pickN_lt _ (by omega)
  have HP9 : Hid (∀ w', Calls Tryz.prog 16 #[.int .i64 (Z 9), .int .i64 4] w' fun e w1 => e = .returned (.int .i64 (pickN (Z 9) 4)) ∧ w' = w1) := fun w' => HPick.out 9 4 4 w' rfl (by omega)
  have hp9 : pickN (Z 9) 4 < 4 := pickN_lt _ (by omega)
  generalize hn : zs.length = n at *
  clear hn
  generalize pickN (Z 0) 3 = p0 at *
  generalize pickN (Z 1) 5 = p1 at *
  generalize pickN (Z 2) 50 = p2 at *
  generalize pickN (Z 3) 80 = p3 at *
  generalize pickN (Z 4) 8 = p4 at *
  generalize pickN (Z 5) 200 = p5 at *
  generalize pickN (Z 6) 300 = p6 at *
  generalize pickN (Z 8) 4 = p8 at *
  generalize pickN (Z 9) 4 = p9 at *
  have HP7 : Hid (∀ w', Calls Tryz.prog 16 #[.int .i64 (Z 7), .int .i64 (1 + p4)] w' fun e w1 => e = .returned (.int .i64 (pickN (Z 7) (1 + p4))) ∧ w' = w1) := fun w' => HPick.out 7 (1 + p4) (1 + p4) w' (by simp) (by omega)
  have hp7 : pickN (Z 7) (1 + p4) < 1 + p4 := pickN_lt _ (by omega)
  generalize pickN (Z 7) (1 + p4) = p7 at *
  go_enter Tryz.func9, Tryz.ntmps9
  go_wp2_with fail
  refine (HRaw.out 0 _ _ rfl (HB0.out _)).mono ?_
  rintro _ _ ⟨rfl, rfl⟩
  go_wp2_with fail
  refine (HP0.out _).mono ?_
  rintro _ _ ⟨rfl, rfl⟩
  go_wp2_with fail
  refine (HRaw.out 1 _ _ rfl (HB0.out _)).mono ?_
  rintro _ _ ⟨rfl, rfl⟩
  go_wp2_with fail
  refine (HP1.out _).mono ?_
  rintro _ _ ⟨rfl, rfl⟩
  go_wp2_with fail
  refine (HRaw.out 2 _ _ rfl (HB0.out _)).mono ?_
  rintro _ _ ⟨rfl, rfl⟩
  go_wp2_with fail
  refine (HP2.out _).mono ?_
  rintro _ _ ⟨rfl, rfl⟩
  go_wp2_with fail
  refine (HRaw.out 3 _ _ rfl (HB0.out _)).mono ?_
  rintro _ _ ⟨rfl, rfl⟩
  go_wp2_with fail
  refine (HP3.out _).mono ?_
  rintro _ _ ⟨rfl, rfl⟩
  go_wp2_with fail
  refine (HRaw.out 4 _ _ rfl (HB0.out _)).mono ?_
  rintro _ _ ⟨rfl, rfl⟩
  go_wp2_with fail
  refine (HP4.out _).mono ?_
  rintro _ _ ⟨rfl, rfl⟩
  go_wp2_with fail
  refine (HRaw.out 5 _ _ rfl (HB0.out _)).mono ?_
  rintro _ _ ⟨rfl, rfl⟩
  go_wp2_with fail
  refine (HP5.out _).mono ?_
  rintro _ _ ⟨rfl, rfl⟩
  go_wp2_with fail
  generalize hW : World.alloc (World.alloc w _) _ = W
  have HM : Hid (MadeAt w W #[.int .i64 (1 + p0), .map none, .int .i64 100, .int .i64 (1 + p1), .int .i64 (1 + p2), .int .i64 0, .int .i64 (1 + p3), .int .i64 (1 + p4), .int .i64 0, .float .f64 4607182418800017408, .int .i64 (1 + p5)]) := by
    rw [← hW]; exact ⟨Blk.made (by simp) _ _, ⟨_, (Blk.new w _ _).alloc _, rfl⟩, ((Below.refl _ _).alloc (Nat.le_refl _) _).alloc (by simp) _, by simp⟩
  clear hW
  go_cut [] (fun wx => MadeAt w wx #[.int .i64 (1 + p0), .map none, .int .i64 100, .int .i64 (1 + p1), .int .i64 (1 + p2), .int .i64 (1 + p2 + p6), .int .i64 (1 + p3), .int .i64 (1 + p4), .int .i64 0, .float .f64 4607182418800017408, .int .i64 (1 + p5)])
  case first =>
    have hw : IntKind.i64.wrap (1 + (p2 : Int) + p6) = 1 + p2 + p6 := IntWalk.i64_in _ (by omega)
    have k4 : W.cell? ⟨w.heap.size + 1, 4, none⟩ = some (.int .i64 (1 + p2)) := HM.out.c.cell 4
    have k5 : W.cell? ⟨w.heap.size + 1, 5, none⟩ = some (.int .i64 0) := HM.out.c.cell 5
    have f5 : W.frozen? ⟨w.heap.size + 1, 5, none⟩ = false := HM.out.c.frozen 5
    go_region_with (first
      | (go_at_call 17; refine (HRaw.out 6 _ _ rfl (by first | exact HM.out.b | exact HM.out.b.drew)).mono ?_; rintro _ _ ⟨rfl, rfl⟩)
      | (go_at_call 16; refine (HP6.out _).mono ?_; rintro _ _ ⟨rfl, rfl⟩))
    all_goals
      go_wp2_with fail
      go_meet
      first | exact HM.out.drew.set2 5 _ _ rfl | exact HM.out.drew.set2 5 _ _ (by rw [hw]; rfl)
  case rest =>
    have HM := hide hcut
    clear hcut
    go_upto_region 3 with fail
    go_cut [] (fun wx => MadeAt w wx #[.int .i64 (1 + p0), .map none, .int .i64 100, .int .i64 (1 + p1), .int .i64 (1 + p2), .int .i64 (1 + p2 + p6), .int .i64 (1 + p3), .int .i64 (1 + p4), .int .i64 (1 + p7), .float .f64 4607182418800017408, .int .i64 (1 + p5)])
    case first =>
      have hw : IntKind.i64.wrap (1 + (p7 : Int)) = 1 + p7 := IntWalk.i64_in _ (by omega)
      have k7 : wc.cell? ⟨w.heap.size + 1, 7, none⟩ = some (.int .i64 (1 + p4)) := HM.out.c.cell 7
      have k8 : wc.cell? ⟨w.heap.size + 1, 8, none⟩ = some (.int .i64 0) := HM.out.c.cell 8
      have f8 : wc.frozen? ⟨w.heap.size + 1, 8, none⟩ = false := HM.out.c.frozen 8
      go_region_with (first
        | (go_at_call 17; refine (HRaw.out 7 _ _ rfl (by first | exact HM.out.b | exact HM.out.b.drew)).mono ?_; rintro _ _ ⟨rfl, rfl⟩)
        | (go_at_call 16; refine (HP7.out _).mono ?_; rintro _ _ ⟨rfl, rfl⟩))
      all_goals
        go_wp2_with fail
        go_meet
        first | exact HM.out.drew.set2 8 _ _ rfl | exact HM.out.drew.set2 8 _ _ (by rw [hw]; rfl)
    case rest =>
      have HM := hide hcut
      clear hcut
      have k1 : wc.cell? ⟨w.heap.size + 1, 1, none⟩ = some (.map none) := HM.out.c.cell 1
      have f1 : wc.frozen? ⟨w.heap.size + 1, 1, none⟩ = false := HM.out.c.frozen 1
      have hsz : wc.heap.size = w.heap.size + 2 := HM.out.s
      have hquo : ∀ (w : World) (t : TypeId), (binOp .quo t (.float .f64 (floatOfInt .f64 (1 + (p8 : Int)))) (.float .f64 4616189618054758400)).run Tryz.prog w = .ok (.float .f64 (quarter p8)) w := fun w t => run_float_arith w .quo t .f64 _ _ _ (quarter_eq hp8)
      have k9 : wc.cell? ⟨w.heap.size + 1, 9, none⟩ = some (.float .f64 4607182418800017408) := HM.out.c.cell 9
      have f9 : wc.frozen? ⟨w.heap.size + 1, 9, none⟩ = false := HM.out.c.frozen 9
      go_wp2_with fail
      refine (HRaw.out 8 _ _ rfl HM.out.b).mono ?_
      rintro _ _ ⟨rfl, rfl⟩
      go_wp2_with fail
      refine (HP8.out _).mono ?_
      rintro _ _ ⟨rfl, rfl⟩
      go_wp2_with fail
      refine (knames_any _).mono ?_
      rintro _ _ ⟨rfl, rfl⟩
      go_wp2_with fail
      generalize hX : World.alloc _ (Obj.cells #[encStr [97], encStr [98], encStr [99], encStr [100]] 9) = X
      have HM2 := hide ((HM.out.set2 9 (.float .f64 (quarter p8)) #[.int .i64 (1 + p0), .map none, .int .i64 100, .int .i64 (1 + p1), .int .i64 (1 + p2), .int .i64 (1 + p2 + p6), .int .i64 (1 + p3), .int .i64 (1 + p4), .int .i64 (1 + p7), .float .f64 (quarter p8), .int .i64 (1 + p5)] rfl).set2 1 (.map (some (w.heap.size + 2))) #[.int .i64 (1 + p0), .map (some (w.heap.size + 2)), .int .i64 100, .int .i64 (1 + p1), .int .i64 (1 + p2), .int .i64 (1 + p2 + p6), .int .i64 (1 + p3), .int .i64 (1 + p4), .int .i64 (1 + p7), .float .f64 (quarter p8), .int .i64 (1 + p5)] rfl)
      generalize hCS : (#[.int .i64 (1 + p0), .map (some (w.heap.size + 2)), .int .i64 100, .int .i64 (1 + p1), .int .i64 (1 + p2), .int .i64 (1 + p2 + p6), .int .i64 (1 + p3), .int .i64 (1 + p4), .int .i64 (1 + p7), .float .f64 (quarter p8), .int .i64 (1 + p5)] : Array Value) = CS at *
      have HX : Hid (OM X (w.heap.size + 2) 0 (DT (madeT zs 0)) ∧ Blk X (w.heap.size + 1) CS 30 ∧ (∃ cs, Blk X w.heap.size cs 30 ∧ cs.size = 11) ∧ Blk X (w.heap.size + 2 + 1) #[encStr [97], encStr [98], encStr [99], encStr [100]] 9 ∧ Below w.heap.size w X) := by
        have hs2 := HM2.out.s
        obtain ⟨cs', q1, q2⟩ := HM2.out.r
        rw [← hX]
        refine ⟨(om_new hs2).alloc _, (HM2.out.c.alloc _).alloc _, ⟨cs', (q1.alloc _).alloc _, q2⟩, Blk.made (by rw [World.size_alloc, hs2]) _ _, (HM2.out.b.alloc (by omega) _).alloc (by rw [World.size_alloc]; omega) _⟩
      clear hX HM2 k1 f1 hsz k9 f9
      go_loopw [5] (fun i wr => ∃ k : Nat, k ≤ p9 + 1 ∧ i = .int .i64 k ∧ OM wr (w.heap.size + 2) k (DT (madeT zs k)) ∧ Blk wr (w.heap.size + 1) CS 30 ∧ (∃ cs, Blk wr w.heap.size cs 30 ∧ cs.size = 11) ∧ Blk wr (w.heap.size + 2 + 1) #[encStr [97], encStr [98], encStr [99], encStr [100]] 9 ∧ Below w.heap.size w wr) (fun i _ => p9 + 1 - (intOf i).toNat)
      case atStart => exact ⟨0, Nat.zero_le _, rfl, HX.out⟩
      case round =>
        obtain ⟨k, hk, rfl, hm, hb0, hb1, hb2, hnx⟩ := hrel
        have Hb0 := hide hb0
        have Hb1 := hide hb1
        have Hb2 := hide hb2
        have Hnx := hide hnx
        have Hm := hide hm
        have hwl : w.heap.size ≤ wr.heap.size := hnx.size
        clear hm hb1 hnx
        by_cases hlt : k ≤ p9
        · have hltI : (k : Int) ≤ (p9 : Int) := by omega
          obtain ⟨x, hx, hxl⟩ : ∃ x, kn.getD k [] = x ∧ x.length ≤ maxLen := ⟨_, rfl, by
            rcases (by omega : k = 0 ∨ k = 1 ∨ k = 2 ∨ k = 3) with rfl | rfl | rfl | rfl <;> simp [kn, maxLen]⟩
          have e1 : wr.cell? ⟨w.heap.size + 2 + 1, k, none⟩ = some (encStr x) := by
            rw [hb2.cell, ← hx]
            rcases (by omega : k = 0 ∨ k = 1 ∨ k = 2 ∨ k = 3) with rfl | rfl | rfl | rfl <;> rfl
          have e3 : wr.cell? ⟨w.heap.size + 1, 1, none⟩ = some (.map (some (w.heap.size + 2))) := by rw [hb0.cell, ← hCS]; rfl
          have HPk : Hid (∀ w', Calls Tryz.prog 16 #[.int .i64 (Z (10 + k)), .int .i64 400] w' fun e w1 => e = .returned (.int .i64 (pickN (Z (10 + k)) 400)) ∧ w' = w1) := fun w' => HPick.out (10 + k) 400 400 w' rfl (by omega)
          have hTk := HT.out k
          rw [hx] at hTk
          have hq : pickN (Z (10 + k)) 400 < 400 := pickN_lt _ (by omega)
          generalize pickN (Z (10 + k)) 400 = q at *
          obtain ⟨w2, hrun, hm2, hg2⟩ := (Hm.out.drew).update lawS Tryz.underlying27 (by unfold maxLen; omega) (keyOfStr hxl) (plainElem_int Tryz.underlying3 (WalkArith.wf_i64 (n := 64 + (q : Int)) (by omega)))
          have g1 : w2.cell? ⟨w.heap.size + 2 + 1, k, none⟩ = some (encStr x) := by rw [World.cell?_of_block (w := wr.drew) (a := ⟨w.heap.size + 2 + 1, _, none⟩) (hg2.block _ hb2.lt (by simp))]; exact e1
          have g3 : w2.cell? ⟨w.heap.size + 1, 1, none⟩ = some (.map (some (w.heap.size + 2))) := by rw [World.cell?_of_block (w := wr.drew) (a := ⟨w.heap.size + 1, _, none⟩) (hg2.block _ hb0.lt (by simp))]; exact e3
          have Hm2 := hide hm2
          have Hg2 := hide hg2
          have HTk := hide hTk
          clear hm2 hg2 hTk hb0 hb2 hx hxl
          have hk4 : (k : Int) < 4 := by omega
          have hw1 : IntKind.i64.wrap (10 + (k : Int)) = 10 + k := IntWalk.i64_in _ (by omega)
          have hw2 : IntKind.i64.wrap (64 + (q : Int)) = 64 + q := IntWalk.i64_in _ (by omega)
          go_wp2_with fail
          refine (HRaw.out 9 _ _ rfl Hnx.out).mono ?_
          rintro _ _ ⟨rfl, rfl⟩
          go_wp2_with fail
          refine (HP9.out _).mono ?_
          rintro _ _ ⟨rfl, rfl⟩
          go_wp2_with fail
          go_region_held3 (fun w' => w'.cell? ⟨w.heap.size + 2 + 1, k, none⟩ = some (encStr x) ∧ w'.cell? ⟨w.heap.size + 1, 1, none⟩ = some (.map (some (w.heap.size + 2)))) (go_keep)
            (first
              | (go_at_call 17; refine (HRaw.out (10 + k) _ _ (by omega) (by first | exact Hnx.out | exact Hnx.out.drew)).mono ?_; rintro _ _ ⟨rfl, rfl⟩)
              | (go_at_call 16; refine (HPk.out _).mono ?_; rintro _ _ ⟨rfl, rfl⟩))
          go_wp2_with fail
          go_roundw
          case rel =>
            refine ⟨k + 1, by omega, by go_num, ?_, Hb0.out.grown (w := wr.drew) Hg2.out (by simp), ?_, Hb2.out.grown (w := wr.drew) Hg2.out (by simp), ?_⟩
            · rw [HTk.out, DT_snoc]; exact Hm2.out
            · obtain ⟨cs, h1, h2⟩ := Hb1.out
              exact ⟨cs, Blk.grown (w := wr.drew) h1 Hg2.out (by simp), h2⟩
            · exact (Hnx.out.drew).grown Hg2.out Hnx.out.size (fun j hj => by cases hj; omega)
          case measure => simp [intOf]; omega
        · have hgtI : ¬ ((k : Int) ≤ (p9 : Int)) := by omega
          obtain rfl : k = p9 + 1 := by omega
          obtain ⟨cs, hcs, hcz⟩ := Hb1.out
          clear hb0 hb2
          go_wp2_with fail
          refine (HRaw.out 9 _ _ rfl Hnx.out).mono ?_
          rintro _ _ ⟨rfl, rfl⟩
          go_wp2_with fail
          refine (HP9.out _).mono ?_
          rintro _ _ ⟨rfl, rfl⟩
          subst hCS
          go_wp2_with (first
            | (refine wpList_load_mid rfl 30 _ rfl (w.heap.size + 1) 0 rfl (#[.int .i64 (1 + p0), .map (some (w.heap.size + 2)), .int .i64 100, .int .i64 (1 + p1), .int .i64 (1 + p2), .int .i64 (1 + p2 + p6), .int .i64 (1 + p3), .int .i64 (1 + p4), .int .i64 (1 + p7), .float .f64 (quarter p8), .int .i64 (1 + p5)] : Array Value).toList _ (Hb0.out.range 0 _ rfl) Tryz.underlying30 rfl infoConfig ?_)
            | (refine wpList_store_mid rfl 30 _ _ rfl w.heap.size 0 #[.int .i64 (1 + p0), .map (some (w.heap.size + 2)), .int .i64 100, .int .i64 (1 + p1), .int .i64 (1 + p2), .int .i64 (1 + p2 + p6), .int .i64 (1 + p3), .int .i64 (1 + p4), .int .i64 (1 + p7), .float .f64 (quarter p8), .int .i64 (1 + p5)] rfl rfl (hcs.there 0 11 (by omega)) infoConfig (by simp [Value.oneCell']) ?_)
            | fail)
          have hsp : splice cs 0 (#[.int .i64 (1 + p0), .map (some (w.heap.size + 2)), .int .i64 100, .int .i64 (1 + p1), .int .i64 (1 + p2), .int .i64 (1 + p2 + p6), .int .i64 (1 + p3), .int .i64 (1 + p4), .int .i64 (1 + p7), .float .f64 (quarter p8), .int .i64 (1 + p5)] : Array Value).toList = #[.int .i64 (1 + p0), .map (some (w.heap.size + 2)), .int .i64 100, .int .i64 (1 + p1), .int .i64 (1 + p2), .int .i64 (1 + p2 + p6), .int .i64 (1 + p3), .int .i64 (1 + p4), .int .i64 (1 + p7), .float .f64 (quarter p8), .int .i64 (1 + p5)] := splice_all cs _ (by simpa using hcz)
          have hfin : Blk (wr.setCells w.heap.size 0 (#[.int .i64 (1 + p0), .map (some (w.heap.size + 2)), .int .i64 100, .int .i64 (1 + p1), .int .i64 (1 + p2), .int .i64 (1 + p2 + p6), .int .i64 (1 + p3), .int .i64 (1 + p4), .int .i64 (1 + p7), .float .f64 (quarter p8), .int .i64 (1 + p5)] : Array Value).toList) w.heap.size #[.int .i64 (1 + p0), .map (some (w.heap.size + 2)), .int .i64 100, .int .i64 (1 + p1), .int .i64 (1 + p2), .int .i64 (1 + p2 + p6), .int .i64 (1 + p3), .int .i64 (1 + p4), .int .i64 (1 + p7), .float .f64 (quarter p8), .int .i64 (1 + p5)] 30 := by
            have h := Blk.setCells (#[.int .i64 (1 + p0), .map (some (w.heap.size + 2)), .int .i64 100, .int .i64 (1 + p1), .int .i64 (1 + p2), .int .i64 (1 + p2 + p6), .int .i64 (1 + p3), .int .i64 (1 + p4), .int .i64 (1 + p7), .float .f64 (quarter p8), .int .i64 (1 + p5)] : Array Value).toList 0 hcs
            rw [hsp] at h
            exact h
          refine bodyPost_ret (v := .agg #[.int .i64 (1 + p0), .map (some (w.heap.size + 2)), .int .i64 100, .int .i64 (1 + p1), .int .i64 (1 + p2), .int .i64 (1 + p2 + p6), .int .i64 (1 + p3), .int .i64 (1 + p4), .int .i64 (1 + p7), .float .f64 (quarter p8), .int .i64 (1 + p5)]) (results_cell1 Tryz.results9 rfl (run_loadVar_mid _ _ 0 30 (#[.int .i64 (1 + p0), .map (some (w.heap.size + 2)), .int .i64 100, .int .i64 (1 + p1), .int .i64 (1 + p2), .int .i64 (1 + p2 + p6), .int .i64 (1 + p3), .int .i64 (1 + p4), .int .i64 (1 + p7), .float .f64 (quarter p8), .int .i64 (1 + p5)] : Array Value).toList _ (hfin.range 0 _ rfl) Tryz.underlying30 rfl infoConfig)) rfl ⟨w.heap.size + 2, rfl, by omega, ⟨p9 + 1, by omega, ?_⟩, below_setCells (by omega) _ 0 Hnx.out⟩
          obtain ⟨es, clock, k1, k2⟩ := Hm.out
          rw [Nat.add_comm 1 p9]
          exact ⟨es, clock, by rw [heap_setCells _ 0 (by omega)]; exact k1, k2⟩
end Go.Proofs.YtojpjaifhjigfabGreatDoor

/- What conduitkeep.made makes is a configuration. -/
namespace Go.Proofs.YtojpjaifhjigfabGreatDoor
open Go.RowKit Go.Maps

theorem atKey_nil (x : List UInt8) (c : Int) (h : At (.map []) x c) : False := by
  have := h .nil
  simp [DataW.atKey] at this
theorem at_cons {k : List UInt8} {q : Int} {es : List (Lit × DataW Unit)} {x : List UInt8} {c : Int} (h : At (.map ((.string k, .lit (.int .i64 q)) :: es)) x c) : (x = k ∧ c = q) ∨ At (.map es) x c := by
  by_cases hk : k = x
  · subst hk
    have := h .nil
    exact Or.inl ⟨rfl, by simpa [DataW.atKey, Lit.sameKey] using this.symm⟩
  · exact Or.inr fun zd => by
      have := h zd
      simpa [DataW.atKey, Lit.sameKey, hk] using this
theorem dt1 (q0 : Int) : DT [([97], q0)] = .map [(.string [97], .lit (.int .i64 q0))] := by kernel_rfl
theorem dt2 (q0 q1 : Int) : DT [([97], q0), ([98], q1)] = .map [(.string [97], .lit (.int .i64 q0)), (.string [98], .lit (.int .i64 q1))] := by kernel_rfl
theorem dt3 (q0 q1 q2 : Int) : DT [([97], q0), ([98], q1), ([99], q2)] = .map [(.string [97], .lit (.int .i64 q0)), (.string [98], .lit (.int .i64 q1)), (.string [99], .lit (.int .i64 q2))] := by kernel_rfl
theorem dt4 (q0 q1 q2 q3 : Int) : DT [([97], q0), ([98], q1), ([99], q2), ([100], q3)] = .map [(.string [97], .lit (.int .i64 q0)), (.string [98], .lit (.int .i64 q1)), (.string [99], .lit (.int .i64 q2)), (.string [100], .lit (.int .i64 q3))] := by kernel_rfl
theorem ok_one (k : UInt8) (z : Int) : okKV [k] (64 + (pickN z 400 : Int)) = true := by
  have := pickN_lt z (n := 400) (by omega)
  simp [okKV, inB]
  omega

theorem made_goodQ (zs : List Int) {k : Nat} (h1 : 1 ≤ k) (h2 : k ≤ 4) : GoodQ (DT (madeT zs k)) ∧ Maps.has (DT (madeT zs k)) (.string [97]) = true := by
  rcases (by omega : k = 1 ∨ k = 2 ∨ k = 3 ∨ k = 4) with rfl | rfl | rfl | rfl
  · have e : DT (madeT zs 1) = _ := dt1 _
    rw [e]
    refine ⟨⟨by simp [Maps.size], fun x c h => ?_⟩, by simp [has_eq, Lit.sameKey]⟩
    rcases at_cons h with ⟨rfl, rfl⟩ | h
    · exact ok_one _ _
    exact absurd h (atKey_nil x c)
  · have e : DT (madeT zs 2) = _ := dt2 _ _
    rw [e]
    refine ⟨⟨by simp [Maps.size], fun x c h => ?_⟩, by simp [has_eq, Lit.sameKey]⟩
    rcases at_cons h with ⟨rfl, rfl⟩ | h
    · exact ok_one _ _
    rcases at_cons h with ⟨rfl, rfl⟩ | h
    · exact ok_one _ _
    exact absurd h (atKey_nil x c)
  · have e : DT (madeT zs 3) = _ := dt3 _ _ _
    rw [e]
    refine ⟨⟨by simp [Maps.size], fun x c h => ?_⟩, by simp [has_eq, Lit.sameKey]⟩
    rcases at_cons h with ⟨rfl, rfl⟩ | h
    · exact ok_one _ _
    rcases at_cons h with ⟨rfl, rfl⟩ | h
    · exact ok_one _ _
    rcases at_cons h with ⟨rfl, rfl⟩ | h
    · exact ok_one _ _
    exact absurd h (atKey_nil x c)
  · have e : DT (madeT zs 4) = _ := dt4 _ _ _ _
    rw [e]
    refine ⟨⟨by simp [Maps.size], fun x c h => ?_⟩, by simp [has_eq, Lit.sameKey]⟩
    rcases at_cons h with ⟨rfl, rfl⟩ | h
    · exact ok_one _ _
    rcases at_cons h with ⟨rfl, rfl⟩ | h
    · exact ok_one _ _
    rcases at_cons h with ⟨rfl, rfl⟩ | h
    · exact ok_one _ _
    rcases at_cons h with ⟨rfl, rfl⟩ | h
    · exact ok_one _ _
    exact absurd h (atKey_nil x c)

theorem quarter_ok {p : Nat} (h : p < 4) : thB (quarter p) = true := by
  rcases (by omega : p = 0 ∨ p = 1 ∨ p = 2 ∨ p = 3) with rfl | rfl | rfl | rfl
  · kernel_rfl
  · kernel_rfl
  · kernel_rfl
  · kernel_rfl
/-- Where all fail the quotient is one, and that is too many. -/
theorem all_fail {p r : Nat} (h : p < 4) (h1 : 1 ≤ r) (h2 : r ≤ 8) : tooMany (quarter p) (r : Int) (r : Int) = true := by
  have key : ((List.range 4).all fun p => (List.range 8).all fun r => (FloatKind.f64.format.order ((FloatKind.f64.format.div (floatOfInt .f64 ((r + 1 : Nat) : Int)) (floatOfInt .f64 ((r + 1 : Nat) : Int))).getD 0) (quarter p) == some .gt) || (FloatKind.f64.format.order ((FloatKind.f64.format.div (floatOfInt .f64 ((r + 1 : Nat) : Int)) (floatOfInt .f64 ((r + 1 : Nat) : Int))).getD 0) (quarter p) == some .eq)) = true := by kernel_rfl
  have := List.all_eq_true.1 (List.all_eq_true.1 key p (by simpa using h)) (r - 1) (by simp; omega)
  have e : r - 1 + 1 = r := by omega
  unfold tooMany quot
  rw [e] at this
  exact this

/-- A configuration with one try. -/
def oneC (zs : List Int) : Cfg := { madeC zs with at' := 1 }
theorem one_good (zs : List Int) : GoodC (oneC zs) (DT (madeT zs (1 + pickN (zs.getD 9 0) 4))) := by
  have h9 := pickN_lt (zs.getD 9 0) (n := 4) (by omega)
  have h0 := pickN_lt (zs.getD 0 0) (n := 3) (by omega)
  have h2 := pickN_lt (zs.getD 2 0) (n := 50) (by omega)
  have h3 := pickN_lt (zs.getD 3 0) (n := 80) (by omega)
  have h4 := pickN_lt (zs.getD 4 0) (n := 8) (by omega)
  have h5 := pickN_lt (zs.getD 5 0) (n := 200) (by omega)
  have h6 := pickN_lt (zs.getD 6 0) (n := 300) (by omega)
  have h7 := pickN_lt (zs.getD 7 0) (n := 1 + pickN (zs.getD 4 0) 8) (by omega)
  have h8 := pickN_lt (zs.getD 8 0) (n := 4) (by omega)
  refine ⟨?_, (made_goodQ zs (by omega) (by omega)).1, quarter_ok h8⟩
  simp only [Cfg.numB, Cfg.nums, oneC, madeC, List.all_cons, List.all_nil, inB, Bool.and_true, Bool.and_eq_true, decide_eq_true_eq]
  omega
end Go.Proofs.YtojpjaifhjigfabGreatDoor

/- conduitkeep's run in memory: find, over. -/
namespace Go.Proofs.YtojpjaifhjigfabGreatDoor
open Go.RowKit Go.Maps

/-- A fact: a batch with what it was when it was last looked at; when it may go again; how often it went. -/
structure Fa where
  b : Bat
  af : Int
  sn : Int
def Fa.cells (f : Fa) : List Value := [.int .i64 f.b.dst, encStr f.b.ten, encStr f.b.id, encStr f.b.body, .int .i64 f.b.st, .int .i64 f.b.fl, .int .i64 f.af, .int .i64 f.sn]
theorem Fa.cells_length (f : Fa) : f.cells.length = 8 := rfl
/-- A way: which fact is under way, its try, since when. -/
structure Wy where
  f : Int
  tr : Int
  bg : Int
def Wy.cells (y : Wy) : List Value := [.int .i64 y.f, .int .i64 y.tr, .int .i64 y.bg]
theorem Wy.cells_length (y : Wy) : y.cells.length = 3 := rfl
structure Rn where
  fs : List Fa
  ws : List Wy
  time : Int
  n : Nat
def runCells (g cm : Nat) (c : Cfg) (fv wv : Value) (R : Rn) : Array Value :=
  #[.pointer (some ⟨g, 0, none⟩), .int .i64 c.d, .map (some cm), .int .i64 c.q, .int .i64 c.at', .int .i64 c.ba, .int .i64 c.ca, .int .i64 c.ti, .int .i64 c.wi, .int .i64 c.le, .float .f64 c.th, .int .i64 c.op, fv, wv, .int .i64 R.time, .int .i64 R.n, .bool true, .bool true, .bool true]
/-- Where a run lies. -/
structure RunP (w : World) (L : Labs) (gr g cm : Nat) (c : Cfg) (fv wv : Value) (R : Rn) : Prop where
  blk : BlkAt w L (some (0, .ag)) gr (runCells g cm c fv wv R) 34
  fa : RowAt w L (some (0, .tk)) 50 8 fv R.fs.length (R.fs.flatMap Fa.cells)
  wy : RowAt w L (some (0, .dd)) 75 3 wv R.ws.length (R.ws.flatMap Wy.cells)
def RunAt (w : World) (L : Labs) (gr g cm : Nat) (c : Cfg) (R : Rn) : Prop := ∃ fv wv, RunP w L gr g cm c fv wv R
theorem RunP.keep {w w' : World} {L L' : Labs} {gr g cm : Nat} {c : Cfg} {fv wv : Value} {R : Rn} (h : RunP w L gr g cm c fv wv R) {p : Lab → Prop} (s : Step p L w L' w') (hp : ∀ q, ¬ p (some (0, q))) : RunP w' L' gr g cm c fv wv R :=
  ⟨h.blk.keep s (hp _), h.fa.keep s (hp _), h.wy.keep s (hp _)⟩
theorem RunAt.keep {w w' : World} {L L' : Labs} {gr g cm : Nat} {c : Cfg} {R : Rn} (h : RunAt w L gr g cm c R) {p : Lab → Prop} (s : Step p L w L' w') (hp : ∀ q, ¬ p (some (0, q))) : RunAt w' L' gr g cm c R := by
  obtain ⟨fv, wv, h⟩ := h
  exact ⟨fv, wv, h.keep s hp⟩
theorem RunAt.agent {w w' : World} {L L' : Labs} {gr g cm : Nat} {c : Cfg} {R : Rn} (h : RunAt w L gr g cm c R) (s : Step (ofP 1) L w L' w') : RunAt w' L' gr g cm c R := h.keep s (fun q => not_ofP (by decide) q)

theorem infoFact : (Tryz.prog.info? 50).map (fun i => (i.zero, i.size, i.bytes)) = some (some (.agg #[.int .i64 0, .string ⟨#[]⟩, .string ⟨#[]⟩, .string ⟨#[]⟩, .int .i64 0, .int .i64 0, .int .i64 0, .int .i64 0]), 8, 88) := by kernel_rfl
theorem infoWay : (Tryz.prog.info? 75).map (fun i => (i.zero, i.size, i.bytes)) = some (some (.agg #[.int .i64 0, .int .i64 0, .int .i64 0]), 3, 24) := by kernel_rfl

/-- The facts' row, cell by cell. -/
theorem RunP.fact {w : World} {L : Labs} {gr g cm : Nat} {c : Cfg} {fv wv : Value} {R : Rn} (h : RunP w L gr g cm c fv wv R) {i : Nat} {f : Fa} (hf : R.fs[i]? = some f) : ∃ gf fk, fv = .slice (some ⟨gf, 0, none⟩) R.fs.length fk ∧ gf < w.heap.size ∧ (∀ j v, f.cells[j]? = some v → w.cell? ⟨gf, i * 8 + j, none⟩ = some v) ∧ ∀ o, w.frozen? ⟨gf, o, none⟩ = false := by
  have hl := (List.getElem?_eq_some_iff.1 hf).1
  obtain ⟨fa, fk, rfl, _⟩ := h.fa.shape
  obtain ⟨gf, rfl, h1, _, h3, h4⟩ := h.fa.head (by omega)
  refine ⟨gf, fk, rfl, h1, fun j v hv => ?_, h4⟩
  exact h3 _ _ (flat_cell Fa.cells 8 Fa.cells_length hf (by have := (List.getElem?_eq_some_iff.1 hv).1; rw [Fa.cells_length] at this; exact this) hv)
theorem RunP.way {w : World} {L : Labs} {gr g cm : Nat} {c : Cfg} {fv wv : Value} {R : Rn} (h : RunP w L gr g cm c fv wv R) {d : Nat} {y : Wy} (hy : R.ws[d]? = some y) : ∃ gw wk, wv = .slice (some ⟨gw, 0, none⟩) R.ws.length wk ∧ gw < w.heap.size ∧ (∀ j v, y.cells[j]? = some v → w.cell? ⟨gw, d * 3 + j, none⟩ = some v) ∧ ∀ o, w.frozen? ⟨gw, o, none⟩ = false := by
  have hl := (List.getElem?_eq_some_iff.1 hy).1
  obtain ⟨wa, wk, rfl, _⟩ := h.wy.shape
  obtain ⟨gw, rfl, h1, _, h3, h4⟩ := h.wy.head (by omega)
  refine ⟨gw, wk, rfl, h1, fun j v hv => ?_, h4⟩
  exact h3 _ _ (flat_cell Wy.cells 3 Wy.cells_length hy (by have := (List.getElem?_eq_some_iff.1 hv).1; rw [Wy.cells_length] at this; exact this) hv)
theorem flat_put {α : Type} (cells : α → List Value) (k : Nat) (hc : ∀ a, (cells a).length = k) : ∀ (l : List α) (i : Nat) (a a' : α) (j : Nat) (v : Value), l[i]? = some a → j < k → cells a' = (cells a).set j v → (l.flatMap cells).set (i * k + j) v = (l.set i a').flatMap cells
  | [], i, a, a', j, v, h, _, _ => by cases h
  | x :: l, 0, a, a', j, v, h, hj, e => by
    have hx : x = a := by simpa using h
    subst hx
    simp only [List.flatMap_cons, List.set_cons_zero, Nat.zero_mul, Nat.zero_add]
    rw [List.set_append_left _ _ (by rw [hc]; exact hj), e]
  | x :: l, i + 1, a, a', j, v, h, hj, e => by
    simp only [List.flatMap_cons, List.set_cons_succ]
    have ih := flat_put cells k hc l i a a' j v (by simpa using h) hj e
    rw [List.set_append_right _ _ (by rw [hc, Nat.succ_mul]; omega), hc, ← ih]
    congr 2
    rw [Nat.succ_mul]
    omega
/-- A store into a fact, into a way, into the run itself. -/
theorem RunP.setFact {w : World} {L : Labs} {gr g cm gf fk : Nat} {c : Cfg} {wv : Value} {R : Rn} (h : RunP w L gr g cm c (.slice (some ⟨gf, 0, none⟩) R.fs.length fk) wv R) {i : Nat} {f f' : Fa} (hf : R.fs[i]? = some f) (j : Nat) (v : Value) (hj : j < 8) (e : f'.cells = f.cells.set j v) : RunP (w.setCell ⟨gf, i * 8 + j, none⟩ v) L gr g cm c (.slice (some ⟨gf, 0, none⟩) R.fs.length fk) wv { R with fs := R.fs.set i f' } ∧ Step (fun l => l = some (0, .tk)) L w L (w.setCell ⟨gf, i * 8 + j, none⟩ v) := by
  have hl : L gf = some (0, .tk) := h.fa.2 gf rfl
  have s : Step (fun l => l = some (0, .tk)) L w L (w.setCell ⟨gf, i * 8 + j, none⟩ v) := Step.setCell _ _ _ _ hl
  refine ⟨⟨h.blk.keep s (by simp), ?_, h.wy.keep s (by simp)⟩, s⟩
  have := h.fa.set (i * 8 + j) v
  rw [flat_put Fa.cells 8 Fa.cells_length R.fs i f f' j v hf hj e] at this
  simpa using this
theorem RunP.setWay {w : World} {L : Labs} {gr g cm gw wk : Nat} {c : Cfg} {fv : Value} {R : Rn} (h : RunP w L gr g cm c fv (.slice (some ⟨gw, 0, none⟩) R.ws.length wk) R) {d : Nat} {y y' : Wy} (hy : R.ws[d]? = some y) (j : Nat) (v : Value) (hj : j < 3) (e : y'.cells = y.cells.set j v) : RunP (w.setCell ⟨gw, d * 3 + j, none⟩ v) L gr g cm c fv (.slice (some ⟨gw, 0, none⟩) R.ws.length wk) { R with ws := R.ws.set d y' } ∧ Step (fun l => l = some (0, .dd)) L w L (w.setCell ⟨gw, d * 3 + j, none⟩ v) := by
  have hl : L gw = some (0, .dd) := h.wy.2 gw rfl
  have s : Step (fun l => l = some (0, .dd)) L w L (w.setCell ⟨gw, d * 3 + j, none⟩ v) := Step.setCell _ _ _ _ hl
  refine ⟨⟨h.blk.keep s (by simp), h.fa.keep s (by simp), ?_⟩, s⟩
  have := h.wy.set (d * 3 + j) v
  rw [flat_put Wy.cells 3 Wy.cells_length R.ws d y y' j v hy hj e] at this
  simpa using this
theorem step0 {p : Part} {L L' : Labs} {w w' : World} (s : Step (fun l => l = some (0, p)) L w L' w') : Step (ofP 0) L w L' w' := s.mono (fun _ h => ⟨_, h⟩)
end Go.Proofs.YtojpjaifhjigfabGreatDoor

/- conduitkeep: find, over. -/
namespace Go.Proofs.YtojpjaifhjigfabGreatDoor
open Go.RowKit Go.Maps

set_option maxHeartbeats 1000000 in
theorem kfind_any (L : Labs) (gr g cm : Nat) (c : Cfg) (R : Rn) (p : Nat) (f : Fa) (name : List UInt8) (w : World) (h : RunAt w L gr g cm c R) (hl : R.fs.length ≤ 120) (hp : R.fs[p]? = some f) (hn : f.b.id = name) (hno : ∀ j f', j < p → R.fs[j]? = some f' → f'.b.id ≠ name) :
    Calls Tryz.prog 73 #[.pointer (some ⟨gr, 0, none⟩), encStr name] w fun e w' => e = .returned (.int .i64 p) ∧ w = w' := by
  obtain ⟨fv, wv, h⟩ := h
  obtain ⟨gf, fk, rfl, _, hcell, _⟩ := h.fact hp
  have hpl := (List.getElem?_eq_some_iff.1 hp).1
  have c12 : w.cell? ⟨gr, 12, none⟩ = some (.slice (some ⟨gf, 0, none⟩) R.fs.length fk) := h.blk.1.cell 12
  have HCell : Hid (∀ j f', R.fs[j]? = some f' → w.cell? ⟨gf, j * 8 + 2, none⟩ = some (encStr f'.b.id)) := fun j f' hf' => by
    obtain ⟨gf', fk', e, _, hc, _⟩ := h.fact hf'
    simp only [Value.slice.injEq, Option.some.injEq, Addr.mk.injEq, true_and, and_true] at e
    obtain ⟨rfl, _⟩ := e
    exact hc 2 _ rfl
  have HP := hide hp
  have HN := hide hn
  have HNo := hide hno
  generalize hm : R.fs.length = m at *
  have Hm := hide hm
  clear h hp hn hno hcell hm
  go_enter Tryz.func73, Tryz.ntmps73
  go_wp2_with fail
  go_loopw [5] (fun i wr => ∃ j : Nat, j ≤ p ∧ i = .int .i64 j ∧ w = wr) (fun i _ => m - (intOf i).toNat)
  case atStart => exact ⟨0, Nat.zero_le _, rfl, rfl⟩
  case round =>
    obtain ⟨j, hj, rfl, rfl⟩ := hrel
    have hltI : (j : Int) < (m : Int) := by omega
    obtain ⟨f', hf'⟩ : ∃ f', R.fs[j]? = some f' := ⟨_, List.getElem?_eq_getElem (by rw [Hm.out]; omega)⟩
    have e2 := HCell.out j f' hf'
    by_cases hjp : j = p
    · subst hjp
      have ee : f' = f := by have := HP.out; rw [hf'] at this; exact (Option.some.inj this)
      subst ee
      rw [HN.out] at e2
      clear hf'
      go_wp2_with fail
      go_ret
      exact ⟨rfl, rfl⟩
    · have hne := HNo.out j f' (by omega) hf'
      have hb : (f'.b.id == name) = false := by simpa using hne
      generalize f'.b.id = y at *
      clear hf'
      go_wp2_with fail
      go_roundw
      case rel => exact ⟨j + 1, by omega, by go_num, by first | rfl | trivial⟩
      case measure => simp [intOf]; omega

/-- What is under way is over. -/
def Rn.over (R : Rn) (ba : Int) (d : Nat) (good : Bool) : Rn := match R.ws[d]? with
  | none => R
  | some y => { R with ws := R.ws.set d { y with f := -1 }, fs := if good then R.fs else R.fs.modify y.f.toNat (fun f => { f with af := R.time + ba }) }
set_option maxHeartbeats 2000000 in
theorem kover_any (L : Labs) (gr g cm : Nat) (c : Cfg) (R : Rn) (d p : Nat) (y : Wy) (f : Fa) (good : Bool) (w : World) (h : RunAt w L gr g cm c R) (hy : R.ws[d]? = some y) (hp : y.f = p) (hf : R.fs[p]? = some f) (ht : 0 ≤ R.time ∧ R.time ≤ 1000000000000000000) (hb : 0 ≤ c.ba ∧ c.ba ≤ 60000) :
    Calls Tryz.prog 49 #[.pointer (some ⟨gr, 0, none⟩), .int .i64 d, .bool good] w fun e w' => e = .returned (.tuple #[]) ∧ RunAt w' L gr g cm c (R.over c.ba d good) ∧ Step (ofP 0) L w L w' := by
  obtain ⟨fv, wv, h⟩ := h
  obtain ⟨gf, fk, rfl, hgf, hcf, hff⟩ := h.fact hf
  obtain ⟨gw, wk, rfl, hgw, hcw, hfw⟩ := h.way hy
  have hd := (List.getElem?_eq_some_iff.1 hy).1
  have hpl := (List.getElem?_eq_some_iff.1 hf).1
  have hgrl := h.blk.1.lt
  have c12 : w.cell? ⟨gr, 12, none⟩ = some (.slice (some ⟨gf, 0, none⟩) R.fs.length fk) := h.blk.1.cell 12
  have c13 : w.cell? ⟨gr, 13, none⟩ = some (.slice (some ⟨gw, 0, none⟩) R.ws.length wk) := h.blk.1.cell 13
  have c14 : w.cell? ⟨gr, 14, none⟩ = some (.int .i64 R.time) := h.blk.1.cell 14
  have c5 : w.cell? ⟨gr, 5, none⟩ = some (.int .i64 c.ba) := h.blk.1.cell 5
  have w0 : w.cell? ⟨gw, d * 3, none⟩ = some (.int .i64 p) := by rw [← hp]; exact hcw 0 _ rfl
  have fw0 := hfw (d * 3)
  have HW := h.setWay hy 0 (.int .i64 (-1)) (by omega) (y' := { y with f := -1 }) rfl
  have HW1 := hide HW
  have hover : R.over c.ba d good = { R with ws := R.ws.set d { y with f := -1 }, fs := if good then R.fs else R.fs.modify p (fun f => { f with af := R.time + c.ba }) } := by
    unfold Rn.over
    rw [hy]
    simp [hp]
  rw [hover]
  have hn1 : gw ≠ gr := fun e => by have h1 := h.wy.2 gw rfl; have h2 := h.blk.2; rw [e, h2] at h1; cases h1
  have hn2 : gf ≠ gw := fun e => by have h1 := h.wy.2 gw rfl; have h2 := h.fa.2 gf rfl; rw [e, h1] at h2; cases h2
  have hdI : (d : Int) < (R.ws.length : Int) := by omega
  have hpI : (p : Int) < (R.fs.length : Int) := by omega
  cases good with
  | true =>
    clear h hcf hcw hff hfw HW hover
    go_enter Tryz.func49, Tryz.ntmps49
    go_wp2_with fail
    first | go_end0 | refine bodyPost_ret (results_none rfl _ _ _) rfl ?_
    exact ⟨rfl, ⟨_, _, HW1.out.1⟩, step0 HW1.out.2⟩
  | false =>
    obtain ⟨hW2, hS2⟩ := HW
    have HF := hide (RunP.setFact (R := { R with ws := R.ws.set d { y with f := -1 } }) hW2 (i := p) (f := f) (f' := { f with af := R.time + c.ba }) hf 6 (.int .i64 (R.time + c.ba)) (by omega) rfl)
    have k6 : (w.setCell ⟨gw, d * 3, none⟩ (.int .i64 (-1))).cell? ⟨gf, p * 8 + 6, none⟩ = some (.int .i64 f.af) := by
      obtain ⟨gf', fk', e, _, hc, _⟩ := hW2.fact (show ({ R with ws := R.ws.set d { y with f := -1 } } : Rn).fs[p]? = some f from hf)
      simp only [Value.slice.injEq, Option.some.injEq, Addr.mk.injEq, true_and, and_true] at e
      obtain ⟨rfl, _⟩ := e
      exact hc 6 _ rfl
    have kf : (w.setCell ⟨gw, d * 3, none⟩ (.int .i64 (-1))).frozen? ⟨gf, p * 8 + 6, none⟩ = false := by
      obtain ⟨gf', fk', e, _, _, hc⟩ := hW2.fact (show ({ R with ws := R.ws.set d { y with f := -1 } } : Rn).fs[p]? = some f from hf)
      simp only [Value.slice.injEq, Option.some.injEq, Addr.mk.injEq, true_and, and_true] at e
      obtain ⟨rfl, _⟩ := e
      exact hc _
    have k12 : (w.setCell ⟨gw, d * 3, none⟩ (.int .i64 (-1))).cell? ⟨gr, 12, none⟩ = some (.slice (some ⟨gf, 0, none⟩) R.fs.length fk) := hW2.blk.1.cell 12
    have k14 : (w.setCell ⟨gw, d * 3, none⟩ (.int .i64 (-1))).cell? ⟨gr, 14, none⟩ = some (.int .i64 R.time) := hW2.blk.1.cell 14
    have k5 : (w.setCell ⟨gw, d * 3, none⟩ (.int .i64 (-1))).cell? ⟨gr, 5, none⟩ = some (.int .i64 c.ba) := hW2.blk.1.cell 5
    have hwrap : IntKind.i64.wrap (R.time + c.ba) = R.time + c.ba := IntWalk.i64_in _ (by omega)
    have HFin : Hid (∀ W : World, W = w.setCell ⟨gw, d * 3, none⟩ (.int .i64 (-1)) → RunAt (W.setCell ⟨gf, p * 8 + 6, none⟩ (.int .i64 (R.time + c.ba))) L gr g cm c { R with ws := R.ws.set d { y with f := -1 }, fs := if false then R.fs else R.fs.modify p (fun f => { f with af := R.time + c.ba }) } ∧ Step (ofP 0) L w L (W.setCell ⟨gf, p * 8 + 6, none⟩ (.int .i64 (R.time + c.ba)))) := fun W hW => by
      subst hW
      refine ⟨⟨.slice (some ⟨gf, 0, none⟩) R.fs.length fk, .slice (some ⟨gw, 0, none⟩) R.ws.length wk, ?_⟩, (step0 HW1.out.2).trans (step0 HF.out.2)⟩
      have := HF.out.1
      simp only [Bool.false_eq_true, if_false]
      rw [modify_set R.fs p (fun f => { f with af := R.time + c.ba }) f hf]
      exact this
    generalize hV : w.setCell ⟨gw, d * 3, none⟩ (.int .i64 (-1)) = V at *
    clear h hcf hcw hff hfw hover hW2 hS2 HW1 HF hf hy
    go_enter Tryz.func49, Tryz.ntmps49
    go_wp2_with fail
    go_region
    all_goals
      go_wp2_with fail
      first | go_end0 | refine bodyPost_ret (results_none rfl _ _ _) rfl ?_
      obtain ⟨q1, q2⟩ := HFin.out V rfl
      first
        | exact ⟨rfl, q1, q2⟩
        | exact ⟨rfl, q1.keep (Step.drew (p := fun _ => False) L _) (fun _ h => h), q2.trans (Step.drew L _)⟩
end Go.Proofs.YtojpjaifhjigfabGreatDoor
