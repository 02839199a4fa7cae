/- The caller's book: what came out, written full by its owner; keepTexts, keepMap. -/
import Derived.Test.YtojpjaifhjigfaaGreatDoorMark
import Derived.ArgAppend
import Derived.Deep.DeepCutAuto
namespace Go.Proofs.YtojpjaifhjigfaaGreatDoor
open Go.RowKit Go.Maps

theorem infoTexts : (Tryz.prog.info? 85).map (fun i => (i.zero, i.size, i.bytes)) = some (some (.slice none 0 0), 1, 24) := by kernel_rfl
theorem infoMapT : (Tryz.prog.info? 22).map (fun i => (i.zero, i.size, i.bytes)) = some (some (.map none), 1, 8) := by kernel_rfl

/-- The labels of what the caller keeps: 0: a list of texts; 1: the list of those; 2: the world; 3: the list of maps; 4: a map. -/
abbrev bl (k n : Nat) : Lab := some (0, .ot k n)
/-- The texts that came out: n lists, each with the mark of its number. -/
def TextsAt (w : World) (L : Labs) (v : Value) (n : Nat) : Prop :=
  ∃ ls, RowAt w L (bl 1 0) 85 1 v n ls ∧ ∀ (i : Nat) (u : Value), ls[i]? = some u → ∃ len, RowAt w L (bl 0 (i / 4)) 9 1 u len (List.replicate len (encStr (mkB (i / 4))))
/-- What stands in a map that came out. -/
def callers : List UInt8 := [116, 104, 101, 32, 99, 97, 108, 108, 101, 114, 39, 115]
def oneMap (i : Nat) : DataW Unit := .map [(.string callers, .lit (.int .i64 (-1000 - i)))]
/-- The maps that came out. -/
def MapsAt (w : World) (L : Labs) (v : Value) (n : Nat) : Prop :=
  ∃ ls, RowAt w L (bl 3 0) 22 1 v n ls ∧ ∀ (i : Nat) (u : Value), ls[i]? = some u → ∃ b, u = .map (some b) ∧ OMapAt w L (bl 4 i) Tryz.prog 9 (plainElem Tryz.prog 3) b 1 (oneMap i)

theorem TextsAt.keep {w w' : World} {L L' : Labs} {v : Value} {n : Nat} (h : TextsAt w L v n) {p : Lab → Prop} (s : Step p L w L' w') (h1 : ¬ p (bl 1 0)) (h0 : ∀ i, i < n → ¬ p (bl 0 (i / 4))) : TextsAt w' L' v n := by
  obtain ⟨ls, q1, q2⟩ := h
  refine ⟨ls, q1.keep s h1, fun i u hu => ?_⟩
  obtain ⟨len, q3⟩ := q2 i u hu
  have hi : i < n := by
    have := (List.getElem?_eq_some_iff.1 hu).1
    have e := q1.1.1
    omega
  exact ⟨len, q3.keep s (h0 i hi)⟩
theorem MapsAt.keep {w w' : World} {L L' : Labs} {v : Value} {n : Nat} (h : MapsAt w L v n) {p : Lab → Prop} (s : Step p L w L' w') (h1 : ¬ p (bl 3 0)) (h0 : ∀ i, i < n → ¬ p (bl 4 i)) : MapsAt w' L' v n := by
  obtain ⟨ls, q1, q2⟩ := h
  refine ⟨ls, q1.keep s h1, fun i u hu => ?_⟩
  obtain ⟨b, q3, q4⟩ := q2 i u hu
  have hi : i < n := by
    have := (List.getElem?_eq_some_iff.1 hu).1
    have e := q1.1.1
    omega
  exact ⟨b, q3, q4.keep s (h0 i hi)⟩

/-- What keepTexts may turn: the list that is handed in, the list of lists, the world. -/
def ktP (k : Nat) : Lab → Prop := fun l => l = bl 0 k ∨ l = bl 1 0 ∨ l = bl 2 0

/-- A new row of texts, all the same. -/
theorem rowAt_new {w w' : World} {L : Labs} {l : Lab} {v : Value} {n : Nat} {xs : List Value} (hown : w'.ownsRow w.heap.size 9 1 v n xs) (hn : 0 < n) : ∃ g cap, v = .slice (some ⟨g, 0, none⟩) n cap ∧ w.heap.size ≤ g ∧ RowAt w' (lay L g l) l 9 1 v n xs := by
  obtain ⟨g, cap, rfl, h1, h2⟩ := hown.form hn
  refine ⟨g, cap, rfl, h1, ⟨hown.1, ?_⟩, fun q hq => ?_⟩
  · rcases hown.2 with ⟨h, _⟩ | ⟨q, c, cur, q1, q2, q3⟩
    · cases h
    · exact Or.inr ⟨q, c, cur, q1, Nat.zero_le _, q3⟩
  · obtain rfl : g = q := by simpa [Value.ownBlock] using hq
    exact lay_same _ _ _

theorem row_add {w : World} {base : Nat} {e : TypeId} {g n cap : Nat} {xs : List Value} (h : w.ownsRow base e 1 (.slice (some ⟨g, 0, none⟩) n cap) n xs) {b : Addr} (hb : some (⟨g, 0, none⟩ : Addr) = some b) {j : Nat} {u : Value} (hu : xs[j]? = some u) : w.cell? (b.add j) = some u := by
  cases hb
  exact h.cells (by simp [Value.ownBlock]) j u hu
theorem rowAt_new' {w w' : World} {o : Obj} {L : Labs} {l : Lab} {v : Value} {n : Nat} {xs : List Value} (hown : w'.ownsRow (w.alloc o).heap.size 9 1 v n xs) (hg : (w.alloc o).grownBy w' none) (hn : 0 < n) : ∃ g cap, v = .slice (some ⟨g, 0, none⟩) n cap ∧ w.heap.size < g ∧ RowAt w' (lay L g l) l 9 1 v n xs ∧ Below w.heap.size w w' := by
  obtain ⟨g, cap, rfl, h1, h2⟩ := rowAt_new (L := L) (l := l) hown hn
  refine ⟨g, cap, rfl, by simp at h1; omega, h2, ((Below.refl _ _).alloc (Nat.le_refl _) o).grown hg (by simp) (fun j hj => by cases hj)⟩

set_option maxRecDepth 100000 in
set_option maxHeartbeats 2000000 in
theorem keepTexts_any (L : Labs) (gw n gl len : Nat) (tv : Value) (xs : List Value) (cur : Array Value) (w : World) (hK : BlkAt w L (bl 2 0) gw cur 38) (hc : cur[23]? = some tv) (hT : TextsAt w L tv n) (h4 : n % 4 = 0) (hn : n ≤ 8000000) (hlen : len ≤ 120)
    (hl : RowAt w L (bl 0 (n / 4)) 9 1 (.slice (some ⟨gl, 0, none⟩) len len) len xs) :
    Calls Tryz.prog 80 #[.pointer (some ⟨gw, 23, none⟩), .slice (some ⟨gl, 0, none⟩) len len] w fun e w' => e = .returned (.tuple #[]) ∧ ∃ L' tv', BlkAt w' L' (bl 2 0) gw (cur.setIfInBounds 23 tv') 38 ∧ TextsAt w' L' tv' (n + 4) ∧ Step (ktP (n / 4)) L w L' w' := by
  obtain ⟨ls, hR, hls⟩ := hT
  obtain ⟨ta, tk, rfl, _⟩ := hR.shape
  have a23 : w.cell? ⟨gw, 23, none⟩ = some (.slice ta n tk) := (hK.1.cell 23).trans hc
  have hgw := hK.1.lt
  obtain ⟨i0, hi, hz0, hz1, hz2⟩ := info_parts infoStr
  have HK := hide hK
  have HR := hide hR
  have HL := hide hls
  have HC := hide hc
  have HB := hide hl
  clear hK hR hls hc hl
  go_enter Tryz.func80, Tryz.ntmps80
  go_wp2_with fail
  rw [show ((n : Int) / 4) = ((n / 4 : Nat) : Int) from by omega]
  refine (mark_any (n / 4) _ (by omega)).mono ?_
  rintro e w1 ⟨rfl, hb1⟩
  generalize hm : mkB (n / 4) = m
  have Hm := hide hm
  have HS1 : Hid (Step (fun l => l = bl 0 (n / 4)) L w L w1) := Step.of_below hb1
  have HB1 : Hid (RowAt w1 L (bl 0 (n / 4)) 9 1 (.slice (some ⟨gl, 0, none⟩) len len) len xs) := HB.out.keep (Step.of_below (p := fun _ => False) hb1) (fun h => h)
  have hxl : xs.length = len := by have := HB.out.1.1; omega
  clear hm hb1 a23
  go_wp2_with fail
  go_loopw [5] (fun i wr => ∃ (k : Nat) (ys : List Value), k ≤ len ∧ i = .int .i64 k ∧ RowAt wr L (bl 0 (n / 4)) 9 1 (.slice (some ⟨gl, 0, none⟩) len len) len ys ∧ ys.take k = List.replicate k (encStr m) ∧ Step (fun l => l = bl 0 (n / 4)) L w L wr) (fun i _ => len - (intOf i).toNat)
  case atStart => exact ⟨0, xs, Nat.zero_le _, rfl, HB1.out, rfl, HS1.out⟩
  case round =>
    obtain ⟨k, ys, hk, rfl, hr, hy, hst⟩ := hrel
    have Hr := hide hr
    have Hy := hide hy
    have Hst := hide hst
    clear hr hy hst
    by_cases hlt : k < len
    · have hltI : (k : Int) < (len : Int) := by omega
      have hyl : ys.length = len := by have := Hr.out.1.1; omega
      obtain ⟨g', e', hg', hlab, hcell, hfz⟩ := Hr.out.head (by omega)
      obtain rfl : gl = g' := by simpa using e'
      have ck := hcell k _ (List.getElem?_eq_getElem (by omega : k < ys.length))
      have fk := hfz k
      have Hlab := hide hlab
      clear hcell hfz hlab e'
      go_wp2_with fail
      go_roundw
      case rel =>
        refine ⟨k + 1, ys.set k (encStr m), by omega, by go_num, Hr.out.set k _, ?_, Hst.out.trans (Step.setCell L wr ⟨gl, k, none⟩ _ Hlab.out)⟩
        rw [List.take_succ_eq_append_getElem (by simp; omega), List.take_set_of_le (Nat.le_refl _), Hy.out]
        simp [List.replicate_succ']
      case measure => simp [intOf]; omega
    · have ek : k = len := by omega
      subst ek
      have hyl : ys.length = k := by have := Hr.out.1.1; omega
      have hys : ys = List.replicate k (encStr m) := by rw [← Hy.out, List.take_of_length_le (by omega)]
      subst hys
      have HR0 : Hid (RowAt wr L (bl 0 (n / 4)) 9 1 (.slice (some ⟨gl, 0, none⟩) k k) k (List.replicate k (encStr m))) := Hr.out
      clear Hr Hy HB1 HB
      go_upto_region 6 with (first
        | (at_builtin; refine wpList_append_grows _ rfl _ _ 85 rfl 9 i0 (.string ⟨#[]⟩) 1 16 Tryz.underlying85 hi hz0 hz1 hz2 rfl (by decide) (some ⟨gl, 0, none⟩) k k (List.replicate k (encStr m)) rfl (fun e => by cases e) (by simp) (fun b hb j u hu => row_add (HR0.out.1.alloc _) hb hu) ⟨wr.heap.size, 0, none⟩ 1 1 [encStr m] rfl (by simp) (World.news_of_block (cs := #[encStr m]) (t := 9) (fr := (0, 0)) (heap_alloc_new wr _)) (by simp [Value.oneCell', encStr]) (by omega) (by unfold maxLen; omega) (by omega) ?_; intro v1 w10 ho hgr; obtain ⟨g1, c1, rfl, hgb1, hro, hbe⟩ := rowAt_new' (L := L) (l := bl 0 (n / 4)) ho hgr (by omega); have Hro1 := hide hro; have Hbe1 := hide hbe; clear ho hgr hro hbe)
        | fail)
      have HR1 : Hid (RowAt w10 L (bl 0 (n / 4)) 9 1 (.slice (some ⟨gl, 0, none⟩) k k) k (List.replicate k (encStr m))) := HR0.out.keep (Step.of_below (p := fun _ => False) Hbe1.out) (fun h => h)
      go_upto_region 7 with (first
        | (at_builtin; refine wpList_append_grows _ rfl _ _ 85 rfl 9 i0 (.string ⟨#[]⟩) 1 16 Tryz.underlying85 hi hz0 hz1 hz2 rfl (by decide) (some ⟨gl, 0, none⟩) k k (List.replicate k (encStr m)) rfl (fun e => by cases e) (by simp) (fun b hb j u hu => row_add (HR1.out.1.alloc _) hb hu) ⟨w10.heap.size, 0, none⟩ 2 2 [encStr m, encStr m] rfl (by simp) (World.news_of_block (cs := #[encStr m, encStr m]) (t := 9) (fr := (0, 0)) (heap_alloc_new w10 _)) (by simp [Value.oneCell', encStr]) (by omega) (by unfold maxLen; omega) (by omega) ?_; intro v2 w20 ho hgr; obtain ⟨g2, c2, rfl, hgb2, hro, hbe⟩ := rowAt_new' (L := L) (l := bl 0 (n / 4)) ho hgr (by omega); have Hro2 := hide hro; have Hbe2 := hide hbe; clear ho hgr hro hbe)
        | fail)
      have HR2 : Hid (RowAt w20 L (bl 0 (n / 4)) 9 1 (.slice (some ⟨gl, 0, none⟩) k k) k (List.replicate k (encStr m))) := HR1.out.keep (Step.of_below (p := fun _ => False) Hbe2.out) (fun h => h)
      go_upto_region 8 with (first
        | (at_builtin; refine wpList_append_grows _ rfl _ _ 85 rfl 9 i0 (.string ⟨#[]⟩) 1 16 Tryz.underlying85 hi hz0 hz1 hz2 rfl (by decide) (some ⟨gl, 0, none⟩) k k (List.replicate k (encStr m)) rfl (fun e => by cases e) (by simp) (fun b hb j u hu => row_add (HR2.out.1.alloc _) hb hu) ⟨w20.heap.size, 0, none⟩ 3 3 [encStr m, encStr m, encStr m] rfl (by simp) (World.news_of_block (cs := #[encStr m, encStr m, encStr m]) (t := 9) (fr := (0, 0)) (heap_alloc_new w20 _)) (by simp [Value.oneCell', encStr]) (by omega) (by unfold maxLen; omega) (by omega) ?_; intro v3 w30 ho hgr; obtain ⟨g3, c3, rfl, hgb3, hro, hbe⟩ := rowAt_new' (L := L) (l := bl 0 (n / 4)) ho hgr (by omega); have Hro3 := hide hro; have Hbe3 := hide hbe; clear ho hgr hro hbe)
        | fail)
      have hs1 : wr.heap.size ≤ w10.heap.size := Hbe1.out.size
      have hs2 : w10.heap.size ≤ w20.heap.size := Hbe2.out.size
      have hs3 : w20.heap.size ≤ w30.heap.size := Hbe3.out.size
      have hs0 : w.heap.size ≤ wr.heap.size := Hst.out.size
      have HB30 : Hid (Below wr.heap.size wr w30) := Hbe1.out.trans ((Hbe2.out.mono hs1).trans (Hbe3.out.mono (by omega)))
      obtain ⟨L1, HL1⟩ : ∃ L1, Hid (L1 = lay (lay (lay L g1 (bl 0 (n / 4))) g2 (bl 0 (n / 4))) g3 (bl 0 (n / 4))) := ⟨_, rfl⟩
      have HLa : Hid (∀ q, q < wr.heap.size → L1 q = L q) := fun q hq => by
        rw [HL1.out, lay_other _ _ (by omega), lay_other _ _ (by omega), lay_other _ _ (by omega)]
      have HS0 : Hid (Step (fun l => l = bl 0 (n / 4)) L w L1 w30) := Hst.out.trans (Step.of_below' HB30.out HLa.out)
      have hk30 : BlkAt w30 L1 (bl 2 0) gw cur 38 := HK.out.keep HS0.out (by simp [bl])
      have hr30 : RowAt w30 L1 (bl 1 0) 85 1 (.slice ta n tk) n ls := HR.out.keep HS0.out (by simp [bl])
      have HQ0 : Hid (RowAt w30 L1 (bl 0 (n / 4)) 9 1 (.slice (some ⟨gl, 0, none⟩) k k) k (List.replicate k (encStr m))) := HR0.out.keep (Step.of_below' (p := fun _ => False) HB30.out HLa.out) (fun h => h)
      have HQ1 : Hid (RowAt w30 L1 (bl 0 (n / 4)) 9 1 (.slice (some ⟨g1, 0, none⟩) (k + 1) c1) (k + 1) (List.replicate k (encStr m) ++ [encStr m])) :=
        Hro1.out.keep (Step.of_below' (p := fun _ => False) (Hbe2.out.trans (Hbe3.out.mono hs2)) (fun q hq => by rw [HL1.out, lay_other _ _ (by omega), lay_other _ _ (by omega)])) (fun h => h)
      have HQ2 : Hid (RowAt w30 L1 (bl 0 (n / 4)) 9 1 (.slice (some ⟨g2, 0, none⟩) (k + 2) c2) (k + 2) (List.replicate k (encStr m) ++ [encStr m, encStr m])) := by
        have := Hro2.out.keep (L' := lay (lay L g2 (bl 0 (n / 4))) g3 (bl 0 (n / 4))) (Step.of_below' (p := fun _ => False) Hbe3.out (fun q hq => lay_other _ _ (by omega))) (fun h => h)
        refine ⟨this.1, fun q hq => ?_⟩
        obtain rfl : g2 = q := by simpa [Value.ownBlock] using hq
        have h2 : g2 < w20.heap.size := (Hro2.out.1.lt g2 (by simp [Value.ownBlock])).2
        rw [HL1.out, lay_other _ _ (by omega), lay_same]
      have HQ3 : Hid (RowAt w30 L1 (bl 0 (n / 4)) 9 1 (.slice (some ⟨g3, 0, none⟩) (k + 3) c3) (k + 3) (List.replicate k (encStr m) ++ [encStr m, encStr m, encStr m])) :=
        ⟨Hro3.out.1, fun q hq => by obtain rfl : g3 = q := by simpa [Value.ownBlock] using hq
                                    rw [HL1.out, lay_same]⟩
      have HKW := hide hk30
      have HRW := hide hr30
      have a23 : w30.cell? ⟨gw, 23, none⟩ = some (.slice ta n tk) := (hk30.1.cell 23).trans HC.out
      have hgw30 := hk30.1.lt
      obtain ⟨i2, hi2, ho0, ho1, ho2⟩ := info_parts infoTexts
      clear hk30 hr30 HR0 HR1 HR2 Hro1 Hro2 Hro3
      go_wp2_with (first
        | (at_builtin; refine wpList_append_lies _ rfl _ _ 32 rfl 0 85 i2 (.slice none 0 0) 1 24 Tryz.underlying32 hi2 ho0 ho1 ho2 rfl (by decide) _ _ _ rfl (HRW.out.1.alloc _) ⟨w30.heap.size, 0, none⟩ 4 4 [.slice (some ⟨gl, 0, none⟩) k k, .slice (some ⟨g1, 0, none⟩) (k + 1) c1, .slice (some ⟨g2, 0, none⟩) (k + 2) c2, .slice (some ⟨g3, 0, none⟩) (k + 3) c3] rfl rfl (World.news_of_block (cs := #[.slice (some ⟨gl, 0, none⟩) k k, .slice (some ⟨g1, 0, none⟩) (k + 1) c1, .slice (some ⟨g2, 0, none⟩) (k + 2) c2, .slice (some ⟨g3, 0, none⟩) (k + 3) c3]) (t := 85) (fr := (0, 0)) (heap_alloc_new w30 _)) (by simp [Value.oneCell']) (by decide) (by unfold maxLen; omega) (by omega) (Nat.zero_le _) (w30.heap.size + 1) (by simp) ?_; intro gg cap w9 hown9 hg9 hat9 hlt9; have hK9 := Blk.grown (HKW.out.1.alloc _) hg9 (fun e => by have := HRW.out.2 gw e.symm; rw [HKW.out.2] at this; simp [bl] at this); have c23 := (hK9.cell 23).trans HC.out; have d23 := hK9.frozen 23; have HK9 := hide hK9; have HO9 := hide hown9; have HG9 := hide hg9; have HAt9 := hide hat9; clear hK9 hown9 hg9 hat9)
        | fail)
      go_end0
      have hat : (Value.slice ta n tk).ownBlock = some gg ∨ w30.heap.size + 1 ≤ gg := HAt9.out.imp id (fun e => by omega)
      obtain ⟨hrow, hlab⟩ := RowAt.appended (w0 := w30.alloc (.cells #[.slice (some ⟨gl, 0, none⟩) k k, .slice (some ⟨g1, 0, none⟩) (k + 1) c1, .slice (some ⟨g2, 0, none⟩) (k + 2) c2, .slice (some ⟨g3, 0, none⟩) (k + 3) c3] 85)) (HRW.out.keep (Step.alloc (p := fun _ => False) L1 w30 _) (fun h => h)) HO9.out (by simpa using hat)
      have hSa : Step (fun l => l = bl 1 0 ∨ l = bl 2 0) L1 w30 (lay L1 gg (bl 1 0)) w9 := (Step.alloc L1 w30 _).trans (Step.of_grown HG9.out (fun j hj => Or.inl (HRW.out.2 j hj)) hlab)
      have hgl9 : lay L1 gg (bl 1 0) gw = bl 2 0 := (hlab gw (by simp; omega)).trans HKW.out.2
      have hS2 : Step (fun l => l = bl 1 0 ∨ l = bl 2 0) L1 w30 (lay L1 gg (bl 1 0)) (w9.setCell ⟨gw, 23, none⟩ (.slice (some ⟨gg, 0, none⟩) (n + 4) cap)) := hSa.trans (Step.setCell _ w9 ⟨gw, 23, none⟩ _ (Or.inr hgl9))
      refine ⟨rfl, lay L1 gg (bl 1 0), _, ⟨HK9.out.set 23 _, hgl9⟩, ⟨_, hrow.keep (Step.setCell (p := fun l => l = bl 2 0) _ w9 ⟨gw, 23, none⟩ _ hgl9) (by simp [bl]), fun i u hu => ?_⟩, (HS0.out.mono (fun l h => Or.inl h)).trans (hS2.mono (fun l h => Or.inr h))⟩
      have hll : ls.length = n := by have := HR.out.1.1; omega
      rw [← Hm.out] at HQ0 HQ1 HQ2 HQ3
      by_cases hil : i < ls.length
      · rw [List.getElem?_append_left hil] at hu
        obtain ⟨len', q⟩ := HL.out i u hu
        exact ⟨len', (q.keep HS0.out (by simp [bl]; omega)).keep hS2 (by simp [bl])⟩
      · rw [List.getElem?_append_right (by omega)] at hu
        obtain ⟨j, rfl⟩ : ∃ j, i = ls.length + j := ⟨i - ls.length, by omega⟩
        simp only [Nat.add_sub_cancel_left] at hu
        have hj4 : j < 4 := by
          have := (List.getElem?_eq_some_iff.1 hu).1
          simpa using this
        have hdiv : (ls.length + j) / 4 = n / 4 := by omega
        rw [hdiv]
        match j, hj4 with
        | 0, _ => simp at hu; subst hu; exact ⟨k, HQ0.out.keep hS2 (by simp [bl])⟩
        | 1, _ => simp at hu; subst hu; exact ⟨k + 1, by have := HQ1.out.keep hS2 (by simp [bl]); simpa [List.replicate_succ'] using this⟩
        | 2, _ => simp at hu; subst hu; exact ⟨k + 2, by have := HQ2.out.keep hS2 (by simp [bl]); simpa [List.replicate_succ'] using this⟩
        | 3, _ => simp at hu; subst hu; exact ⟨k + 3, by have := HQ3.out.keep hS2 (by simp [bl]); simpa [List.replicate_succ'] using this⟩
end Go.Proofs.YtojpjaifhjigfaaGreatDoor
