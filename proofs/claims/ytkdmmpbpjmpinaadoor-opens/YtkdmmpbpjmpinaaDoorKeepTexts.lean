/- (*Book).keepTexts of an empty list: four lists more among the texts. -/
import Derived.Test.YtkdmmpbpjmpinaaDoorMark
namespace Go.Proofs.YtkdmmpbpjmpinaaDoor
open Go.RowKit Go.Maps

theorem infoStrings : (Tryd.prog.info? 67).map (fun i => (i.zero, i.size, i.bytes)) = some (some (.slice none 0 0), 1, 24) := by kernel_rfl

/-- A new row of n texts, all the same, in block g. -/
def NewRow (w w' : World) (g cap n : Nat) (m : List UInt8) : Prop := w.heap.size ≤ g ∧ w'.ownsRow w.heap.size 9 1 (.slice (some ⟨g, 0, none⟩) n cap) n (List.replicate n (encStr m)) ∧ Below w.heap.size w w'

/-- What stays behind a call that writes the book: all rows but those of lists of texts; and the world's own block. -/
structure Frame (w w' : World) (gw : Nat) : Prop where
  below : Below gw w w'
  size : w.heap.size ≤ w'.heap.size
  block : ∀ k cur t, Blk w k cur t → k ≠ gw → t ≠ 67 → Blk w' k cur t

theorem Frame.refl (w : World) (gw : Nat) : Frame w w gw := ⟨Below.refl _ _, Nat.le_refl _, fun _ _ _ h _ _ => h⟩
theorem Frame.trans {a b c : World} {gw : Nat} (h : Frame a b gw) (k : Frame b c gw) : Frame a c gw := ⟨h.below.trans k.below, Nat.le_trans h.size k.size, fun i cur t hb h1 h2 => k.block i cur t (h.block i cur t hb h1 h2) h1 h2⟩
theorem Frame.of_below {w w' : World} {gw : Nat} (h : Below w.heap.size w w') (hgw : gw ≤ w.heap.size) : Frame w w' gw := ⟨h.mono hgw, h.size, fun _ _ _ hb _ _ => hb.below h hb.lt⟩

/-- The texts of the book: n lists, each with the mark of its number. -/
def BookAt (w : World) (gw : Nat) (tv : Value) (n : Nat) : Prop := ∃ ls : List Value, w.ownsRow (gw + 1) 67 1 tv n ls ∧ ls.length = n ∧ ∀ i v, ls[i]? = some v → ∃ len, Texts w (gw + 1) v (List.replicate len (mkB (i / 4)))

theorem newRow_texts {w w' : World} {g cap n B : Nat} {m : List UInt8} {ss : List (List UInt8)} (h : NewRow w w' g cap n m) (hs : ss = List.replicate n m) (hB : B ≤ w.heap.size) : Texts w' B (.slice (some ⟨g, 0, none⟩) n cap) ss := by
  obtain ⟨_, h2, _⟩ := h
  have hl : ss.length = n := by rw [hs]; simp
  unfold Texts
  rw [hl, hs, List.map_replicate]
  refine ⟨h2.1, ?_⟩
  rcases h2.2 with h1 | ⟨g', cap', cur, q1, q2, q3⟩
  · exact Or.inl h1
  · exact Or.inr ⟨g', cap', cur, q1, Nat.le_trans hB q2, q3⟩

set_option maxRecDepth 100000 in
set_option maxHeartbeats 1000000 in
theorem keepTexts_nil (gw n : Nat) (ta : Option Addr) (tk : Nat) (ls : List Value) (cur : Array Value) (w : World) (hK : Blk w gw cur 43) (hc : cur[23]? = some (.slice ta n tk)) (hR : w.ownsRow (gw + 1) 67 1 (.slice ta n tk) n ls) (hn : (n : Int) ≤ 8000000) :
    Calls Tryd.prog 26 #[.pointer (some ⟨gw, 23, none⟩), .slice none 0 0] w fun e w' => e = .returned (.tuple #[]) ∧ ∃ ta' tk' v1 v2 v3, Blk w' gw (cur.setIfInBounds 23 (.slice ta' (n + 4) tk')) 43 ∧
      w'.ownsRow (gw + 1) 67 1 (.slice ta' (n + 4) tk') (n + 4) (ls ++ [.slice none 0 0, v1, v2, v3]) ∧ Texts w' (gw + 1) v1 [mkB (n / 4)] ∧ Texts w' (gw + 1) v2 [mkB (n / 4), mkB (n / 4)] ∧ Texts w' (gw + 1) v3 [mkB (n / 4), mkB (n / 4), mkB (n / 4)] ∧ Frame w w' gw := by
  have HK := hide hK
  have HR := hide hR
  have HC := hide hc
  have a23 : w.cell? ⟨gw, 23, none⟩ = some (.slice ta n tk) := (hK.cell 23).trans hc
  have hgw := hK.lt
  obtain ⟨i0, hi, hz0, hz1, hz2⟩ := info_parts infoString
  clear hK hR hc
  go_enter Tryd.func26, Tryd.ntmps26
  go_wp2_with fail
  rw [show ((n : Int) / 4) = ((n / 4 : Nat) : Int) from by omega]
  refine (mark_any (n / 4) _ (by omega)).mono ?_
  rintro e w1 ⟨rfl, hb1⟩
  generalize hm : mkB (n / 4) = m
  have Hm := hide hm
  have Hb1 := hide hb1
  have hz1' : w.heap.size ≤ w1.heap.size := hb1.size
  clear hm hb1 a23
  go_wp2_with fail
  refine wp_loop_rounds 1 ?_
  rw [rounds_succ]
  go_upto_region 5 with fail
  go_cut [6] (fun s wx => ∃ g cap, s = .slice (some ⟨g, 0, none⟩) 1 cap ∧ NewRow w1 wx g cap 1 m)
  case first =>
    go_wp2_with (first
      | (at_builtin; refine wpList_append_lies _ rfl _ _ 67 rfl w1.heap.size 9 i0 (.string ⟨#[]⟩) 1 16 Tryd.underlying67 hi hz0 hz1 hz2 rfl (by decide) _ 0 [] rfl ⟨rfl, Or.inl ⟨rfl, rfl⟩⟩ ⟨w1.heap.size, 0, none⟩ 1 1 [encStr m] rfl rfl (World.news_of_block (cs := #[encStr m]) (t := 9) (fr := (0, 0)) (heap_alloc_new w1 _)) (by simp [Value.oneCell', encStr]) (by decide) (by decide) (by decide) (by simp) (w1.heap.size + 1) (by simp) ?_; intro g cap w3 hown3 hg3 hat3 hlt3)
      | fail)
    go_meet
    refine ⟨g, cap, rfl, ?_, hown3, ((Below.refl _ _).alloc (Nat.le_refl _) _).grown hg3 (by simp) (fun j hj => by cases hj)⟩
    rcases hat3 with h | h
    · cases h
    · omega
  case rest =>
  obtain ⟨g6, k6, rfl, hN6⟩ := hcut
  generalize hwc6 : wc = w6 at *
  clear hwc6
  have HN6 := hide hN6
  have hz6 : w1.heap.size ≤ w6.heap.size := hN6.2.2.size
  clear hN6
  go_upto_region 6 with fail
  go_cut [7] (fun s wx => ∃ g cap, s = .slice (some ⟨g, 0, none⟩) 2 cap ∧ NewRow w6 wx g cap 2 m)
  case first =>
    go_wp2_with (first
      | (at_builtin; refine wpList_append_lies _ rfl _ _ 67 rfl w6.heap.size 9 i0 (.string ⟨#[]⟩) 1 16 Tryd.underlying67 hi hz0 hz1 hz2 rfl (by decide) _ 0 [] rfl ⟨rfl, Or.inl ⟨rfl, rfl⟩⟩ ⟨w6.heap.size, 0, none⟩ 2 2 [encStr m, encStr m] rfl rfl (World.news_of_block (cs := #[encStr m, encStr m]) (t := 9) (fr := (0, 0)) (heap_alloc_new w6 _)) (by simp [Value.oneCell', encStr]) (by decide) (by decide) (by decide) (by simp) (w6.heap.size + 1) (by simp) ?_; intro g cap w3 hown3 hg3 hat3 hlt3)
      | fail)
    go_meet
    refine ⟨g, cap, rfl, ?_, hown3, ((Below.refl _ _).alloc (Nat.le_refl _) _).grown hg3 (by simp) (fun j hj => by cases hj)⟩
    rcases hat3 with h | h
    · cases h
    · omega
  case rest =>
  obtain ⟨g7, k7, rfl, hN7⟩ := hcut
  generalize hwc7 : wc = w7 at *
  clear hwc7
  have HN7 := hide hN7
  have hz7 : w6.heap.size ≤ w7.heap.size := hN7.2.2.size
  clear hN7
  go_upto_region 7 with fail
  go_cut [8] (fun s wx => ∃ g cap, s = .slice (some ⟨g, 0, none⟩) 3 cap ∧ NewRow w7 wx g cap 3 m)
  case first =>
    go_wp2_with (first
      | (at_builtin; refine wpList_append_lies _ rfl _ _ 67 rfl w7.heap.size 9 i0 (.string ⟨#[]⟩) 1 16 Tryd.underlying67 hi hz0 hz1 hz2 rfl (by decide) _ 0 [] rfl ⟨rfl, Or.inl ⟨rfl, rfl⟩⟩ ⟨w7.heap.size, 0, none⟩ 3 3 [encStr m, encStr m, encStr m] rfl rfl (World.news_of_block (cs := #[encStr m, encStr m, encStr m]) (t := 9) (fr := (0, 0)) (heap_alloc_new w7 _)) (by simp [Value.oneCell', encStr]) (by decide) (by decide) (by decide) (by simp) (w7.heap.size + 1) (by simp) ?_; intro g cap w3 hown3 hg3 hat3 hlt3)
      | fail)
    go_meet
    refine ⟨g, cap, rfl, ?_, hown3, ((Below.refl _ _).alloc (Nat.le_refl _) _).grown hg3 (by simp) (fun j hj => by cases hj)⟩
    rcases hat3 with h | h
    · cases h
    · omega
  case rest =>
  obtain ⟨g8, k8, rfl, hN8⟩ := hcut
  generalize hwc8 : wc = w8 at *
  clear hwc8
  have HN8 := hide hN8
  have hz8 : w7.heap.size ≤ w8.heap.size := hN8.2.2.size
  clear hN8
  have hB6 : Below w.heap.size w w6 := Hb1.out.trans (HN6.out.2.2.mono hz1')
  have hB7 : Below w.heap.size w w7 := hB6.trans (HN7.out.2.2.mono (by omega))
  have hB8 : Below w.heap.size w w8 := hB7.trans (HN8.out.2.2.mono (by omega))
  have hkw : Blk w8 gw cur 43 := HK.out.below hB8 hgw
  have hrw : w8.ownsRow (gw + 1) 67 1 (.slice ta n tk) n ls := ownsRow_below HR.out hB8
  have HKW := hide hkw
  have HB8 := hide hB8
  have a23 : w8.cell? ⟨gw, 23, none⟩ = some (.slice ta n tk) := (hkw.cell 23).trans HC.out
  have hgw8 : gw < w8.heap.size := hkw.lt
  have HT1 : Hid (Texts w8 (gw + 1) (.slice (some ⟨g6, 0, none⟩) 1 k6) [m]) := (newRow_texts (ss := [m]) HN6.out rfl (by omega)).below ((HN7.out.2.2).trans (HN8.out.2.2.mono hz7)) (Nat.le_refl _)
  have HT2 : Hid (Texts w8 (gw + 1) (.slice (some ⟨g7, 0, none⟩) 2 k7) [m, m]) := (newRow_texts (ss := [m, m]) HN7.out rfl (by omega)).below HN8.out.2.2 (Nat.le_refl _)
  have HT3 : Hid (Texts w8 (gw + 1) (.slice (some ⟨g8, 0, none⟩) 3 k8) [m, m, m]) := newRow_texts (ss := [m, m, m]) HN8.out rfl (by omega)
  obtain ⟨i2, hi2, ho0, ho1, ho2⟩ := info_parts infoStrings
  clear hB6 hB7 hB8 hkw
  go_wp2_with (first
    | (at_builtin; refine wpList_append_lies _ rfl _ _ 37 rfl (gw + 1) 67 i2 (.slice none 0 0) 1 24 Tryd.underlying37 hi2 ho0 ho1 ho2 rfl (by decide) _ _ _ rfl (hrw.alloc _) ⟨w8.heap.size, 0, none⟩ 4 4 [.slice none 0 0, .slice (some ⟨g6, 0, none⟩) 1 k6, .slice (some ⟨g7, 0, none⟩) 2 k7, .slice (some ⟨g8, 0, none⟩) 3 k8] rfl rfl (World.news_of_block (cs := #[.slice none 0 0, .slice (some ⟨g6, 0, none⟩) 1 k6, .slice (some ⟨g7, 0, none⟩) 2 k7, .slice (some ⟨g8, 0, none⟩) 3 k8]) (t := 67) (fr := (0, 0)) (heap_alloc_new w8 _)) (by simp [Value.oneCell']) (by decide) (by unfold maxLen; omega) (by omega) (by simp; omega) (w8.heap.size + 1) (by simp) ?_; intro gg cap w9 hown9 hg9 hat9 hlt9; have hK9 := Blk.grown (HKW.out.alloc _) hg9 (fun e => absurd (hrw.lt gw e.symm).1 (by omega)); have c23 := (hK9.cell 23).trans HC.out; have d23 := hK9.frozen 23; have HK9 := hide hK9; have HO9 := hide hown9; have HG9 := hide hg9; clear hK9 hown9 hg9)
    | fail)
  go_end0
  have HF : ∀ q cur' t, Blk w8 q cur' t → q ≠ gw → t ≠ 67 → Blk (w9.setCell ⟨gw, 23, none⟩ (.slice (some ⟨gg, 0, none⟩) (n + 4) cap)) q cur' t := fun q cur' t hb h1 h2 => by
    have hne : some q ≠ Value.ownBlock (.slice ta n tk) := fun e => by
      rcases hrw.2 with ⟨h3, _⟩ | ⟨g, cap', cur'', h3, _, h4, _⟩
      · rw [h3] at e; cases e
      · rw [h3] at e
        have e' : q = g := by simpa [Value.ownBlock] using e
        subst e'
        exact Blk.notT hb h2 h4
    exact ((hb.alloc _).grown HG9.out hne).other _ _ h1
  have HTx : ∀ v ss, Texts w8 (gw + 1) v ss → Texts (w9.setCell ⟨gw, 23, none⟩ (.slice (some ⟨gg, 0, none⟩) (n + 4) cap)) (gw + 1) v ss := fun v ss h => by
    refine ⟨h.1, ?_⟩
    rcases h.2 with q1 | ⟨g, cap', cur'', q1, q2, q3, q4⟩
    · exact Or.inl q1
    · exact Or.inr ⟨g, cap', cur'', q1, q2, HF _ _ _ q3 (by omega) (by decide), q4⟩
  rw [Hm.out]
  refine ⟨rfl, _, _, _, _, _, HK9.out.set 23 _, ownsRow_setCell_below HO9.out (by show gw < gw + 1; omega) _, HTx _ _ HT1.out, HTx _ _ HT2.out, HTx _ _ HT3.out, ?_, ?_, ?_⟩
  · have hbw9 : Below gw w8 w9 := ((Below.refl gw w8).alloc (by omega) _).grown HG9.out (by simp; omega) (fun j hj => by have := (hrw.lt j hj).1; omega)
    exact ((HB8.out.mono (by omega)).trans hbw9).setCell (Nat.le_refl _) _
  · have := HG9.out.size; have := HB8.out.size; simp [World.setCell] at *; omega
  · exact fun q cur' t hb h1 h2 => HF q cur' t (hb.below HB8.out hb.lt) h1 h2

theorem bookAt_keep {w w' : World} {gw n : Nat} {ta ta' : Option Addr} {tk tk' : Nat} {ls : List Value} {v1 v2 v3 : Value} (h4 : n % 4 = 0) (hl : ls.length = n) (hb : ∀ i v, ls[i]? = some v → ∃ len, Texts w (gw + 1) v (List.replicate len (mkB (i / 4))))
    (hr : w'.ownsRow (gw + 1) 67 1 (.slice ta' (n + 4) tk') (n + 4) (ls ++ [.slice none 0 0, v1, v2, v3])) (h1 : Texts w' (gw + 1) v1 [mkB (n / 4)]) (h2 : Texts w' (gw + 1) v2 [mkB (n / 4), mkB (n / 4)])
    (h3 : Texts w' (gw + 1) v3 [mkB (n / 4), mkB (n / 4), mkB (n / 4)]) (hf : Frame w w' gw) (_h : w.ownsRow (gw + 1) 67 1 (.slice ta n tk) n ls) : BookAt w' gw (.slice ta' (n + 4) tk') (n + 4) := by
  refine ⟨_, hr, by simp [hl], fun i v hv => ?_⟩
  by_cases hi : i < ls.length
  · rw [List.getElem?_append_left hi] at hv
    obtain ⟨len, q1, q2⟩ := hb i v hv
    refine ⟨len, q1, ?_⟩
    rcases q2 with q2 | ⟨g, cap, cur, p1, p2, p3, p4⟩
    · exact Or.inl q2
    · exact Or.inr ⟨g, cap, cur, p1, p2, hf.block _ _ _ p3 (by omega) (by decide), p4⟩
  · rw [List.getElem?_append_right (by omega)] at hv
    obtain ⟨j, hj⟩ : ∃ j, i = ls.length + j := ⟨i - ls.length, by omega⟩
    subst hj
    have hj4 : j < 4 := by
      have := (List.getElem?_eq_some_iff.1 hv).1
      simp at this; omega
    have hdiv : (ls.length + j) / 4 = n / 4 := by omega
    rw [hdiv]
    simp only [Nat.add_sub_cancel_left] at hv
    match j, hj4 with
    | 0, _ =>
      simp at hv; subst hv
      exact ⟨0, rfl, Or.inl ⟨rfl, rfl⟩⟩
    | 1, _ => simp at hv; subst hv; exact ⟨1, h1⟩
    | 2, _ => simp at hv; subst hv; exact ⟨2, h2⟩
    | 3, _ => simp at hv; subst hv; exact ⟨3, h3⟩
end Go.Proofs.YtkdmmpbpjmpinaaDoor
