/- (*World).asked: of agents that have taken nothing the answer is true. -/
import Derived.Test.YtkdmmpbpjmpinaaDoorWhole
namespace Go.Proofs.YtkdmmpbpjmpinaaDoor
open Go.RowKit Go.Maps

/-- The names of a map are texts, and not too many. -/
def StrsOK (D : DataW Unit) : Prop := ∀ ss : List (List UInt8), ss.Perm (strKeys D) → (∀ x ∈ ss, x.length ≤ maxLen) ∧ (ss.length : Int) ≤ 8796093022208
/-- Each of these points to a pair. -/
def PairsOK (w : World) (gw : Nat) (ps : List Value) : Prop := ∀ (i : Nat) (v : Value), ps[i]? = some v → ∃ (B gp : Nat) (c : Cfg) (m : Option Nat) (D : DataW Unit), v = Value.pointer (some ⟨gp, 0, none⟩) ∧ gw < B ∧ PairAt w B gp c m D ∧ StrsOK D
theorem PairsOK.keep {w w' : World} {gw : Nat} {ps : List Value} (h : PairsOK w gw ps) (hf : Frame w w' gw) : PairsOK w' gw ps := fun i v hv => by
  obtain ⟨B, gp, c, m, D, h1, h2, h3, h4⟩ := h i v hv
  exact ⟨B, gp, c, m, D, h1, h2, pairAt_keep h3 (fun k cur t hk hb ht => hf.block k cur t hb (by omega) (by rcases ht with rfl | rfl | rfl <;> decide)), h4⟩
theorem rowP_keep {w w' : World} {gw : Nat} {v : Value} {n : Nat} {ps : List Value} (h : w.ownsRow (gw + 1) 55 1 v n ps) (hf : Frame w w' gw) : w'.ownsRow (gw + 1) 55 1 v n ps := by
  refine ⟨h.1, ?_⟩
  rcases h.2 with h1 | ⟨g, cap, cur, h1, h2, h3, h4⟩
  · exact Or.inl h1
  · exact Or.inr ⟨g, cap, cur, h1, h2, hf.block _ _ _ h3 (by omega) (by decide), h4⟩

theorem setOther {cur : Array Value} {i j : Nat} {x y : Value} (h : cur[j]? = some y) (hne : i ≠ j) : (cur.setIfInBounds i x)[j]? = some y := by
  rw [Array.getElem?_setIfInBounds_ne hne]; exact h

set_option maxRecDepth 100000 in
set_option maxHeartbeats 1000000 in
theorem asked_any (gw k : Nat) (pa : Option Addr) (pk : Nat) (ps : List Value) (cur : Array Value) (w : World) (hK : Blk w gw cur 43) (h22 : cur[22]? = some (.slice pa k pk)) (h23 : cur[23]? = some (.slice none 0 0)) (h24 : cur[24]? = some (.slice none 0 0)) (h25 : cur[25]? = some (.slice none 0 0))
    (hr : w.ownsRow (gw + 1) 55 1 (.slice pa k pk) k ps) (hps : PairsOK w gw ps) (hk : k ≤ 1000) :
    Calls Tryd.prog 10 #[.pointer (some ⟨gw, 0, none⟩)] w fun e w' => e = .returned (.bool true) ∧ Below gw w w' := by
  have hpl : ps.length = k := by have := hr.1; omega
  have HK := hide hK
  have HR := hide hr
  have HPs := hide hps
  have H22 := hide h22
  have H23 := hide h23
  have H24 := hide h24
  have H25 := hide h25
  clear hK hr hps h22 h23 h24 h25
  go_enter Tryd.func10, Tryd.ntmps10
  go_wp2_with fail
  go_loopw [3] (fun i wr => ∃ (t n : Nat) (ta : Option Addr) (tk : Nat) (cur' : Array Value), t ≤ k ∧ i = .int .i64 t ∧ n = 8 * t ∧ Blk wr gw cur' 43 ∧ cur'[22]? = some (.slice pa k pk) ∧ cur'[23]? = some (.slice ta n tk) ∧
      cur'[24]? = some (.slice none 0 0) ∧ cur'[25]? = some (.slice none 0 0) ∧ BookAt wr gw (.slice ta n tk) n ∧ Frame w wr gw) (fun i _ => k - (intOf i).toNat)
  case atStart => exact ⟨0, 0, none, 0, cur, Nat.zero_le _, rfl, rfl, HK.out, H22.out, H23.out, H24.out, H25.out, ⟨[], ⟨rfl, Or.inl ⟨rfl, rfl⟩⟩, rfl, fun i v hv => by simp at hv⟩, Frame.refl _ _⟩
  case round =>
    obtain ⟨t, n, ta, tk, cur', ht, rfl, hn, hKr, g22, g23, g24, g25, hBk, hF⟩ := hrel
    have HKr := hide hKr
    have G22 := hide g22
    have G23 := hide g23
    have G24 := hide g24
    have G25 := hide g25
    have HBk := hide hBk
    have HF := hide hF
    have Hn := hide hn
    have a22 : wr.cell? ⟨gw, 22, none⟩ = some (.slice pa k pk) := (hKr.cell 22).trans g22
    clear hKr g22 g23 g24 g25 hBk hF hn
    by_cases hlt : t < k
    · have hltI : (t : Int) < (k : Int) := by omega
      obtain ⟨gr, rfl, hg1, hg2, hcell⟩ := row_cell (rowP_keep HR.out HF.out) (by omega)
      obtain ⟨v, hv⟩ : ∃ v, ps[t]? = some v := ⟨_, List.getElem?_eq_getElem (by omega)⟩
      obtain ⟨B, gp, c, m, D, rfl, hgB, hP, hS⟩ := (HPs.out.keep HF.out) t v hv
      have hct := hcell t _ hv
      have HP := hide hP
      have HS := hide hS
      clear hcell hv hP hS
      go_wp2_with fail
      refine (wDead_any gw gp B n ta tk cur' c m D _ HKr.out G23.out HBk.out (by have := Hn.out; omega) (by have := Hn.out; omega) HP.out).mono ?_
      rintro e w1 ⟨rfl, ta1, tk1, hK1, hBk1, hF1⟩
      have HK1 := hide hK1
      have HBk1 := hide hBk1
      have HF1 := hide hF1
      have HP1 : Hid (PairAt w1 B gp c m D) := pairAt_keep HP.out (fun q cu ty hq hb hty => hF1.block q cu ty hb (by omega) (by rcases hty with rfl | rfl | rfl <;> decide))
      clear hK1 hBk1 hF1
      go_wp2_with fail
      refine (wWaiting_any gw gp B c m D _ HP1.out HS.out).mono ?_
      rintro e w2 ⟨rfl, hw2⟩
      subst hw2
      obtain ⟨gx, gy, p1, p13⟩ : ∃ gx gy : Nat, w2.cell? ⟨gp, 1, none⟩ = some (.pointer (some ⟨gy, 0, none⟩)) ∧ w2.cell? ⟨gy, 13, none⟩ = some (.slice none 0 0) := by
        obtain ⟨gx, gy, nv, ss, qv, la, lk, sv, lg, _, _, hkp, hky, _⟩ := HP1.out
        exact ⟨gx, gy, hkp.cell 1, hky.cell 13⟩
      go_wp2_with fail
      refine wp_loop_rounds 1 ?_
      rw [rounds_succ]
      go_wp2_with fail
      go_roundw
      case rel => exact ⟨t + 1, n + 4 + 4, ta1, tk1, _, by omega, by go_num, by have := Hn.out; omega, HK1.out, setOther G22.out (by decide), set23 G23.out, setOther G24.out (by decide), setOther G25.out (by decide), HBk1.out, HF.out.trans HF1.out⟩
      case measure => simp [intOf]; omega
    · have c23 : wr.cell? ⟨gw, 23, none⟩ = some (.slice ta n tk) := (HKr.out.cell 23).trans G23.out
      have c24 : wr.cell? ⟨gw, 24, none⟩ = some (.slice none 0 0) := (HKr.out.cell 24).trans G24.out
      have c25 : wr.cell? ⟨gw, 25, none⟩ = some (.slice none 0 0) := (HKr.out.cell 25).trans G25.out
      go_wp2_with fail
      refine (whole_any gw n ta tk _ c23 c24 c25 HBk.out (by have := Hn.out; omega)).mono ?_
      rintro e w1 ⟨rfl, hb1⟩
      have Hb1 := hide hb1
      clear hb1
      go_wp2_with fail
      go_ret
      exact ⟨rfl, HF.out.below.trans (Hb1.out.mono (Nat.le_of_lt HKr.out.lt))⟩
end Go.Proofs.YtkdmmpbpjmpinaaDoor
