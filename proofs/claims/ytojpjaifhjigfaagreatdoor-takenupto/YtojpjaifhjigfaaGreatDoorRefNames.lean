/- conduitref.names: the names of a map, each once. -/
import Derived.Test.YtojpjaifhjigfaaGreatDoorIsConfig
import Derived.Sort.OwnSorted
import Derived.Deep.AppendLies
namespace Go.Proofs.YtojpjaifhjigfaaGreatDoor
open Go.RowKit Go.Maps

theorem infoString : (Tryz.prog.info? 9).map (fun i => (i.zero, i.size, i.bytes)) = some (some (.string ⟨#[]⟩), 1, 16) := by kernel_rfl

/-- The slice value v holds these texts, in memory from block B on. -/
def Texts (w : World) (B : Nat) (v : Value) (ss : List (List UInt8)) : Prop := w.ownsRow B 9 1 v ss.length (ss.map encStr)

theorem Texts.mono_base {w : World} {B B' : Nat} {v : Value} {ss : List (List UInt8)} (h : Texts w B v ss) (hB : B' ≤ B) : Texts w B' v ss := by
  refine ⟨h.1, ?_⟩
  rcases h.2 with h1 | ⟨g, cap, cur, h1, h2, h3⟩
  · exact Or.inl h1
  · exact Or.inr ⟨g, cap, cur, h1, Nat.le_trans hB h2, h3⟩
theorem Texts.shape {w : World} {B : Nat} {v : Value} {ss : List (List UInt8)} (h : Texts w B v ss) : ∃ a c, v = .slice a ss.length c := by
  rcases h.2 with ⟨rfl, h0⟩ | ⟨g, cap, cur, rfl, _⟩
  · exact ⟨none, 0, by rw [h0]⟩
  · exact ⟨_, _, rfl⟩

/-- Block g holds these texts, one a cell, with room for cap. -/
def RowS (w : World) (g cap : Nat) (ys : List (List UInt8)) : Prop := ∃ cur, Blk w g cur 9 ∧ cur.size = cap ∧ ys.length ≤ cap ∧ cap ≤ maxLen ∧ cur.toList.take ys.length = ys.map encStr
theorem RowS.of {w : World} {B g cap : Nat} {ys : List (List UInt8)} (h : w.ownsRow B 9 1 (.slice (some ⟨g, 0, none⟩) ys.length cap) ys.length (ys.map encStr)) : RowS w g cap ys := by
  rcases h.2 with ⟨h1, _⟩ | ⟨g', cap', cur, h1, _, h2, h3, h4, h5, h6⟩
  · cases h1
  · simp only [Value.slice.injEq, Option.some.injEq, Addr.mk.injEq, and_true, true_and] at h1
    obtain ⟨rfl, rfl⟩ := h1
    exact ⟨cur, h2, by simpa using h5, h3, h4, by simpa using h6⟩
theorem RowS.texts {w : World} {B g cap : Nat} {ys : List (List UInt8)} (h : RowS w g cap ys) (hB : B ≤ g) : Texts w B (.slice (some ⟨g, 0, none⟩) ys.length cap) ys := by
  obtain ⟨cur, h1, h2, h3, h4, h5⟩ := h
  exact ⟨by simp, Or.inr ⟨g, cap, cur, rfl, hB, h1, h3, h4, by simpa using h2, by simpa using h5⟩⟩
theorem RowS.cell {w : World} {g cap : Nat} {ys : List (List UInt8)} (h : RowS w g cap ys) (j : Nat) (hj : j < ys.length) : w.cell? ⟨g, j, none⟩ = some (encStr (ys[j]'hj)) := by
  obtain ⟨cur, h1, h2, h3, h4, h5⟩ := h
  rw [h1.cell j]
  have e : (cur.toList.take ys.length)[j]? = (ys.map encStr)[j]? := by rw [h5]
  rw [List.getElem?_take_of_lt hj, List.getElem?_map, List.getElem?_eq_getElem hj] at e
  simpa using e
theorem RowS.frozen {w : World} {g cap : Nat} {ys : List (List UInt8)} (h : RowS w g cap ys) (j : Nat) : w.frozen? ⟨g, j, none⟩ = false := by
  obtain ⟨cur, h1, _⟩ := h
  exact h1.frozen j
theorem RowS.set {w : World} {g cap : Nat} {ys : List (List UInt8)} (h : RowS w g cap ys) (k : Nat) (y : List UInt8) : RowS (w.setCell ⟨g, k, none⟩ (encStr y)) g cap (ys.set k y) := by
  obtain ⟨cur, h1, h2, h3, h4, h5⟩ := h
  refine ⟨_, h1.set k _, by simpa using h2, by simpa using h3, h4, ?_⟩
  rw [Array.toList_setIfInBounds, List.length_set, List.take_set, h5, List.map_set]

theorem rg_set {w : World} {b r n : Nat} {D : DataW Unit} {left : Lit → Bool} {cnt g : Nat} (h : RG w b r n D left cnt) (hb : b ≠ g) (hr : r ≠ g) (i : Nat) (v : Value) : RG (w.setCell ⟨g, i, none⟩ v) b r n D left cnt := by
  obtain ⟨es, clock, since, seen, c0, k1, k2, k3, k4, k5, k6⟩ := h
  exact ⟨es, clock, since, seen, c0, by rw [heap_setCell_other _ _ _ _ hb]; exact k1, k2, k3, k4, by rw [heap_setCell_other _ _ _ _ hr]; exact k5, k6⟩

theorem perm_shift (ys : List (List UInt8)) (j : Nat) (x : List UInt8) (h : j + 1 < ys.length) : ((ys.set (j + 1) (ys[j]'(by omega))).set j x).Perm (ys.set (j + 1) x) := by
  have hl : j + 1 < (ys.set (j + 1) x).length := by simpa using h
  have hl' : j < (ys.set (j + 1) x).length := by omega
  have : (((ys.set (j + 1) x).set (j + 1) ((ys.set (j + 1) x)[j]'hl')).set j ((ys.set (j + 1) x)[j + 1]'hl)).Perm (ys.set (j + 1) x) := List.set_set_perm hl hl'
  simpa using this

set_option maxHeartbeats 400000 in
theorem refNames_nil (w : World) : Calls Tryz.prog 78 #[.map none] w fun e w' => e = .returned (.slice none 0 0) ∧ Below w.heap.size w w' := by
  have hrg := run_range_nilMap (P := Tryz.prog) w 22 9 3 Tryz.underlying22
  have hnx : ∀ ty, (Instr.next (.pointer (some ⟨w.heap.size, 0, none⟩)) false ty).run Tryz.prog (w.alloc (.mapIter none 0 #[] 0)) = _ := fun ty => run_next_nilMap _ ty 0 0 #[]
  go_enter Tryz.func78, Tryz.ntmps78
  go_wp2
  refine wp_loop_rounds 1 ?_
  rw [rounds_succ]
  go_wp2
  go_ret
  exact ⟨rfl, (Below.refl _ _).alloc (Nat.le_refl _) _⟩

set_option maxRecDepth 100000 in
set_option maxHeartbeats 1000000 in
theorem refNames_some (b n : Nat) (D : DataW Unit) (w : World) (hown : OM w b n D) (hn : n ≤ big) :
    Calls Tryz.prog 78 #[.map (some b)] w fun e w' => ∃ v ss, e = .returned v ∧ Texts w' w.heap.size v ss ∧ ss.Perm (strKeys D) ∧ Below w.heap.size w w' := by
  obtain ⟨i0, hi, hz0, hz1, hz2⟩ := info_parts infoString
  have hbl := hown.lt
  have HO := hide hown
  have hsize : Maps.size D ≤ big := Nat.le_trans hown.size_le hn
  go_enter Tryz.func78, Tryz.ntmps78
  go_wp2_with (first
    | (at_range; refine wpList_range_own _ rfl _ 22 rfl 9 3 lawS Tryz.underlying22 _ b n _ rfl hown ?_; intro w0 hrg0 hg0 hs0)
    | fail)
  go_frame
  have Hg0 := hide hg0
  clear hg0 hs0 hown
  go_loopw [3] (fun v wr => ∃ (left : Lit → Bool) (cnt : Nat) (ss s0 : List (List UInt8)), RG wr b w.heap.size n D left cnt ∧ ss.length + cnt ≤ Maps.size D ∧
      Texts wr w.heap.size v ss ∧ ss.Perm s0 ∧ Collected D left s0 ∧ Below w.heap.size w wr)
    (fun _ wr => wr.rangeLeft b w.heap.size)
  case atStart =>
    exact ⟨_, _, [], [], hrg0, by simp, ⟨rfl, Or.inl ⟨rfl, rfl⟩⟩, List.Perm.refl _, Collected.start D, (Below.refl _ _).grown Hg0.out (Nat.le_refl _) (fun j hj => by cases hj)⟩
  case round =>
    obtain ⟨left, cnt, ss, s0, hrg, hcs, hrow, hperm, hC, hnx⟩ := hrel
    obtain ⟨a3, c3, rfl⟩ := hrow.shape
    have Hrow := hide hrow
    have Hp := hide hperm
    have HC := hide hC
    have Hnx := hide hnx
    clear hrow hperm hC hnx
    go_wp2_with (first
      | (at_next; refine wpList_next_ranges _ rfl _ rfl 9 lawS (plainElem Tryz.prog 3) encStr (Value.int .i64) invK invV b w.heap.size n _ _ _ rfl hrg ?_ ?_)
      | fail)
    · intro hc0 hl0
      have Hl0 := hide hl0
      clear hl0
      go_wp2_with fail
      go_ret
      exact ⟨_, ss, rfl, Hrow.out, Hp.out.trans (HC.out.perm HO.out lawS Tryz.underlying9 Hl0.out), Hnx.out⟩
    · intro x c kl yd yp w2 cnt2 hkey hlk hv hat hrg2 hlt hg2 hs2 hen
      obtain ⟨x', ex, rfl, hxl⟩ := Maps.keyOf_str Tryz.underlying9 hkey
      obtain rfl : x = x' := encStr_inj ex
      have hrow2 : Texts w2 w.heap.size _ ss := Hrow.out.kept hg2 (Or.inr (row_ne_iter Hrow.out hrg).symm)
      have HC2 := hide (HC.out.step hlk hat)
      have Hb2 : Hid (Below w.heap.size w w2) := Hnx.out.grown hg2 Hnx.out.size (fun j hj => by cases hj; exact Nat.le_refl _)
      have Hrg2 := hide hrg2
      have HM : Hid (cnt2 < wr.rangeLeft b w.heap.size) := by rw [hrg.left_eq]; exact hlt
      have hcnt : ss.length + 1 + cnt2 ≤ Maps.size D := by omega
      have hB2 : w.heap.size ≤ w2.heap.size := Hb2.out.size
      have hrl : some w.heap.size ≠ Value.ownBlock (.slice a3 ss.length c3) := row_ne_iter hrow2 hrg2
      have hbytes : (ss.length + 1) * 16 ≤ 140737488355328 := by unfold big at hsize; omega
      have h63 : ss.length + 1 ≤ maxLen := by unfold maxLen; unfold big at hsize; omega
      clear hs2 hkey hlk hv hat ex hg2 hrg2 hlt
      go_wp2_with (first
        | (at_builtin; refine wpList_append_lies _ rfl _ _ 85 rfl w.heap.size 9 i0 (.string ⟨#[]⟩) 1 16 Tryz.underlying85 hi hz0 hz1 hz2 rfl (by decide) _ _ _ rfl (hrow2.alloc _) ⟨w2.heap.size, 0, none⟩ 1 1 [encStr x] rfl rfl (cell_one_new _ _ _) (by simp [Value.oneCell', encStr]) (by decide) h63 hbytes (by simp; omega) (w2.heap.size + 1) (by simp) ?_; intro g cap w3 hown3 hg3 hat3 hlt3; go_frame)
        | fail)
      have hlen : (ss.map encStr ++ [encStr x]) = (ss ++ [x]).map encStr := by simp
      have hR3 : RowS w3 g cap (ss ++ [x]) := RowS.of (by rw [← hlen]; simpa using hown3)
      have hrg3 : RG w3 b w.heap.size n D _ cnt2 := (Hrg2.out.alloc _).kept hg3 (row_ne_low hrow2 hbl) hrl
      have hb3 : Below w.heap.size w w3 := (Hb2.out.alloc hB2 _).grown hg3 (by simp; omega) (fun j hj => (hrow2.lt j hj).1)
      have hgB : w.heap.size ≤ g := by
        rcases hat3 with h | h
        · exact (hrow2.lt g h).1
        · omega
      have hgr : w.heap.size ≠ g := by
        rcases hat3 with h | h
        · intro e; rw [e] at hrl; exact hrl h.symm
        · have := Hrg2.out.lt; omega
      have hbg : b ≠ g := by omega
      have HR3 := hide hR3
      have Hrg3 := hide hrg3
      have Hb3 := hide hb3
      clear hlen hR3 hrg3 hb3 hown3 hg3 hat3 hrl hrow2 hen
      go_loopw [5] (fun i wq => ∃ (k : Nat) (ys : List (List UInt8)), i = .int .i64 k ∧ k ≤ ss.length ∧ ys.length = ss.length + 1 ∧ RowS wq g cap ys ∧ (ys.set k x).Perm (ss ++ [x]) ∧
          RG wq b w.heap.size n D (fun z => left z && !z.sameKey (.string x)) cnt2 ∧ Below w.heap.size w wq) (fun i _ => (intOf i).toNat)
      case atStart => exact ⟨ss.length, ss ++ [x], rfl, Nat.le_refl _, by simp, HR3.out, by simp, Hrg3.out, Hb3.out⟩
      case round =>
        obtain ⟨k, ys, rfl, hk, hyl, hR, hP, hrgq, hbq⟩ := hrel
        have HR := hide hR
        have HP := hide hP
        have Hrgq := hide hrgq
        have Hbq := hide hbq
        clear hR hP hrgq hbq
        have hck : wr.cell? ⟨g, k, none⟩ = some (encStr (ys[k]'(by omega))) := HR.out.cell k (by omega)
        have hfk : wr.frozen? ⟨g, k, none⟩ = false := HR.out.frozen k
        have hkI : (k : Int) < (ss.length : Int) + 1 := by omega
        rcases k with _ | j
        · go_wp2_with fail
          go_roundw
          case rel => exact ⟨_, cnt2, ys.set 0 x, s0 ++ [x], rg_set Hrgq.out hbg hgr _ _, by simp [hyl]; omega, by have := (HR.out.set 0 x).texts hgB; simpa [hyl] using this, HP.out.trans (Hp.out.append_right [x]), HC2.out, Hbq.out.setCell hgB _⟩
          case measure => rw [(rg_set Hrgq.out hbg hgr _ _).left_eq]; exact HM.out
        · have hcj : wr.cell? ⟨g, j, none⟩ = some (encStr (ys[j]'(by omega))) := HR.out.cell j (by omega)
          go_wp2_with fail
          · go_roundw
            case rel => exact ⟨j, ys.set (j + 1) (ys[j]'(by omega)), rfl, by omega, by simpa using hyl, HR.out.set (j + 1) _, (perm_shift ys j x (by omega)).trans HP.out, rg_set Hrgq.out hbg hgr _ _, Hbq.out.setCell hgB _⟩
            case measure => simp [intOf]
          · go_roundw
            case rel => exact ⟨_, cnt2, ys.set (j + 1) x, s0 ++ [x], rg_set Hrgq.out hbg hgr _ _, by simp [hyl]; omega, by have := (HR.out.set (j + 1) x).texts hgB; simpa [hyl] using this, HP.out.trans (Hp.out.append_right [x]), HC2.out, Hbq.out.setCell hgB _⟩
            case measure => rw [(rg_set Hrgq.out hbg hgr _ _).left_eq]; exact HM.out

theorem refNames_any (m : Option Nat) (D : DataW Unit) (w : World) (h : MapAt w m D) :
    Calls Tryz.prog 78 #[.map m] w fun e w' => ∃ v ss, e = .returned v ∧ Texts w' w.heap.size v ss ∧ ss.Perm (strKeys D) ∧ Below w.heap.size w w' := by
  rcases h with ⟨rfl, rfl⟩ | ⟨b, n, rfl, h2, h3⟩
  · refine (refNames_nil w).mono ?_
    rintro e w' ⟨rfl, hb⟩
    exact ⟨_, [], rfl, ⟨rfl, Or.inl ⟨rfl, rfl⟩⟩, List.Perm.refl _, hb⟩
  · exact refNames_some b n D w h2 h3
end Go.Proofs.YtojpjaifhjigfaaGreatDoor
