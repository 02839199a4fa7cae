/- Steps of the proof (several texts in one): RefNames, Good. -/
import Derived.Test.YtojpjaifhjigfaaGreatDoorMKept01
import Derived.Sort.OwnSorted
import Derived.Sort.Walk0
import Derived.Deep.AppendLies
import Derived.Deep.DeepCutAuto
import Derived.Deep.QuietTactic
import Derived.BigQuiet

/- conduitref.names: the names of a map, each once. -/
namespace Go.Proofs.YtojpjaifhjigfaaGreatDoor
open Go.RowKit Go.Maps

theorem infoString : (Tryz.prog.info? 9).map (fun i => (i.zero, i.size, i.bytes)) = some (some (.string ⟨#[]⟩), 1, 16) := by kernel_rfl

/-- The slice value v holds these texts, in memory from block B on. -/
def Texts (w : World) (B : Nat) (v : Value) (ss : List (List UInt8)) : Prop := w.ownsRow B 9 1 v ss.length (ss.map encStr)

theorem Texts.mono_base {w : World} {B B' : Nat} {v : Value} {ss : List (List UInt8)} (h : Texts w B v ss) (hB : B' ≤ B) : Texts w B' v ss := by
  refine ⟨h.1, ?_⟩
  rcases h.2 with h1 | ⟨g, cap, cur, h1, h2, h3⟩
  · exact Or.inl h1
  · exact Or.inr ⟨g, cap, cur, h1, Nat.le_trans hB h2, h3⟩
theorem Texts.shape {w : World} {B : Nat} {v : Value} {ss : List (List UInt8)} (h : Texts w B v ss) : ∃ a c, v = .slice a ss.length c := by
  rcases h.2 with ⟨rfl, h0⟩ | ⟨g, cap, cur, rfl, _⟩
  · exact ⟨none, 0, by rw [h0]⟩
  · exact ⟨_, _, rfl⟩

/-- Block g holds these texts, one a cell, with room for cap. -/
def RowS (w : World) (g cap : Nat) (ys : List (List UInt8)) : Prop := ∃ cur, Blk w g cur 9 ∧ cur.size = cap ∧ ys.length ≤ cap ∧ cap ≤ maxLen ∧ cur.toList.take ys.length = ys.map encStr
theorem RowS.of {w : World} {B g cap : Nat} {ys : List (List UInt8)} (h : w.ownsRow B 9 1 (.slice (some ⟨g, 0, none⟩) ys.length cap) ys.length (ys.map encStr)) : RowS w g cap ys := by
  rcases h.2 with ⟨h1, _⟩ | ⟨g', cap', cur, h1, _, h2, h3, h4, h5, h6⟩
  · cases h1
  · simp only [Value.slice.injEq, Option.some.injEq, Addr.mk.injEq, and_true, true_and] at h1
    obtain ⟨rfl, rfl⟩ := h1
    exact ⟨cur, h2, by simpa using h5, h3, h4, by simpa using h6⟩
theorem RowS.texts {w : World} {B g cap : Nat} {ys : List (List UInt8)} (h : RowS w g cap ys) (hB : B ≤ g) : Texts w B (.slice (some ⟨g, 0, none⟩) ys.length cap) ys := by
  obtain ⟨cur, h1, h2, h3, h4, h5⟩ := h
  exact ⟨by simp, Or.inr ⟨g, cap, cur, rfl, hB, h1, h3, h4, by simpa using h2, by simpa using h5⟩⟩
theorem RowS.cell {w : World} {g cap : Nat} {ys : List (List UInt8)} (h : RowS w g cap ys) (j : Nat) (hj : j < ys.length) : w.cell? ⟨g, j, none⟩ = some (encStr (ys[j]'hj)) := by
  obtain ⟨cur, h1, h2, h3, h4, h5⟩ := h
  rw [h1.cell j]
  have e : (cur.toList.take ys.length)[j]? = (ys.map encStr)[j]? := by rw [h5]
  rw [List.getElem?_take_of_lt hj, List.getElem?_map, List.getElem?_eq_getElem hj] at e
  simpa using e
theorem RowS.frozen {w : World} {g cap : Nat} {ys : List (List UInt8)} (h : RowS w g cap ys) (j : Nat) : w.frozen? ⟨g, j, none⟩ = false := by
  obtain ⟨cur, h1, _⟩ := h
  exact h1.frozen j
theorem RowS.set {w : World} {g cap : Nat} {ys : List (List UInt8)} (h : RowS w g cap ys) (k : Nat) (y : List UInt8) : RowS (w.setCell ⟨g, k, none⟩ (encStr y)) g cap (ys.set k y) := by
  obtain ⟨cur, h1, h2, h3, h4, h5⟩ := h
  refine ⟨_, h1.set k _, by simpa using h2, by simpa using h3, h4, ?_⟩
  rw [Array.toList_setIfInBounds, List.length_set, List.take_set, h5, List.map_set]

theorem rg_set {w : World} {b r n : Nat} {D : DataW Unit} {left : Lit → Bool} {cnt g : Nat} (h : RG w b r n D left cnt) (hb : b ≠ g) (hr : r ≠ g) (i : Nat) (v : Value) : RG (w.setCell ⟨g, i, none⟩ v) b r n D left cnt := by
  obtain ⟨es, clock, since, seen, c0, k1, k2, k3, k4, k5, k6⟩ := h
  exact ⟨es, clock, since, seen, c0, by rw [heap_setCell_other _ _ _ _ hb]; exact k1, k2, k3, k4, by rw [heap_setCell_other _ _ _ _ hr]; exact k5, k6⟩

theorem perm_shift (ys : List (List UInt8)) (j : Nat) (x : List UInt8) (h : j + 1 < ys.length) : ((ys.set (j + 1) (ys[j]'(by omega))).set j x).Perm (ys.set (j + 1) x) := by
  have hl : j + 1 < (ys.set (j + 1) x).length := by simpa using h
  have hl' : j < (ys.set (j + 1) x).length := by omega
  have : (((ys.set (j + 1) x).set (j + 1) ((ys.set (j + 1) x)[j]'hl')).set j ((ys.set (j + 1) x)[j + 1]'hl)).Perm (ys.set (j + 1) x) := List.set_set_perm hl hl'
  simpa using this

/-- A text goes where it belongs. -/
theorem insert_sorted {ys ss : List (List UInt8)} {x : List UInt8} {k : Nat} (hk : k < ys.length) (he : ys.take k ++ ys.drop (k + 1) = ss) (hs : ss.Pairwise (fun a b => a ≤ b)) (hB : ∀ y ∈ ys.drop (k + 1), x ≤ y) (hA : ∀ a ∈ ys.take k, a ≤ x) : (ys.set k x).Pairwise (fun a b => a ≤ b) := by
  rw [List.set_eq_take_append_cons_drop, if_pos hk]
  rw [← he, List.pairwise_append] at hs
  rw [List.pairwise_append]
  refine ⟨hs.1, List.pairwise_cons.2 ⟨hB, hs.2.1⟩, fun a ha b hb => ?_⟩
  rcases List.mem_cons.1 hb with rfl | hb
  · exact hA a ha
  · exact hs.2.2 a ha b hb
theorem take_le {ys ss : List (List UInt8)} {x : List UInt8} {j : Nat} (hj : j < ys.length) (he : ys.take (j + 1) ++ ys.drop (j + 1 + 1) = ss) (hs : ss.Pairwise (fun a b => a ≤ b)) (hx : ys[j] ≤ x) : ∀ a ∈ ys.take (j + 1), a ≤ x := by
  rw [← he, List.pairwise_append] at hs
  have h1 := hs.1
  rw [List.take_succ_eq_append_getElem hj, List.pairwise_append] at h1
  intro a ha
  rw [List.take_succ_eq_append_getElem hj] at ha
  rcases List.mem_append.1 ha with h | h
  · exact List.le_trans (h1.2.2 a h ys[j] (by simp)) hx
  · obtain rfl := List.mem_singleton.1 h
    exact hx
theorem shift_hole {ys : List (List UInt8)} {j : Nat} (h : j + 1 < ys.length) : (ys.set (j + 1) (ys[j]'(by omega))).take j ++ (ys.set (j + 1) (ys[j]'(by omega))).drop (j + 1) = ys.take (j + 1) ++ ys.drop (j + 1 + 1) ∧ (ys.set (j + 1) (ys[j]'(by omega))).drop (j + 1) = ys[j]'(by omega) :: ys.drop (j + 1 + 1) := by
  have e : (ys.set (j + 1) (ys[j]'(by omega))).drop (j + 1) = ys[j]'(by omega) :: ys.drop (j + 1 + 1) := by
    rw [List.set_eq_take_append_cons_drop, if_pos h, List.drop_append_of_le_length (by simp; omega), List.drop_of_length_le (by simp; omega), List.nil_append]
  refine ⟨?_, e⟩
  rw [e, List.take_set_of_le (by omega)]
  have e2 := List.take_succ_eq_append_getElem (show j < ys.length by omega)
  rw [e2]
  simp only [List.append_assoc, List.singleton_append]

set_option maxHeartbeats 400000 in
theorem refNames_nil (w : World) : Calls Tryz.prog 78 #[.map none] w fun e w' => e = .returned (.slice none 0 0) ∧ Below w.heap.size w w' := by
  have hrg := run_range_nilMap (P := Tryz.prog) w 22 9 3 Tryz.underlying22
  have hnx : ∀ ty, (Instr.next (.pointer (some ⟨w.heap.size, 0, none⟩)) false ty).run Tryz.prog (w.alloc (.mapIter none 0 #[] 0)) = _ := fun ty => run_next_nilMap _ ty 0 0 #[]
  go_enter Tryz.func78, Tryz.ntmps78
  go_wp2
  refine wp_loop_rounds 1 ?_
  rw [rounds_succ]
  go_wp2
  go_ret
  exact ⟨rfl, (Below.refl _ _).alloc (Nat.le_refl _) _⟩

set_option maxRecDepth 100000 in
set_option maxHeartbeats 1000000 in
theorem refNames_some (b n : Nat) (D : DataW Unit) (w : World) (hown : OM w b n D) (hn : n ≤ big) :
    Calls Tryz.prog 78 #[.map (some b)] w fun e w' => ∃ v ss, e = .returned v ∧ Texts w' w.heap.size v ss ∧ ss.Perm (strKeys D) ∧ ss.Pairwise (fun a b => a ≤ b) ∧ Below w.heap.size w w' := by
  obtain ⟨i0, hi, hz0, hz1, hz2⟩ := info_parts infoString
  have hbl := hown.lt
  have HO := hide hown
  have hsize : Maps.size D ≤ big := Nat.le_trans hown.size_le hn
  go_enter Tryz.func78, Tryz.ntmps78
  go_wp2_with (first
    | (at_range; refine wpList_range_own _ rfl _ 22 rfl 9 3 lawS Tryz.underlying22 _ b n _ rfl hown ?_; intro w0 hrg0 hg0 hs0)
    | fail)
  go_frame
  have Hg0 := hide hg0
  clear hg0 hs0 hown
  go_loopw [3] (fun v wr => ∃ (left : Lit → Bool) (cnt : Nat) (ss s0 : List (List UInt8)), RG wr b w.heap.size n D left cnt ∧ ss.length + cnt ≤ Maps.size D ∧
      Texts wr w.heap.size v ss ∧ ss.Perm s0 ∧ ss.Pairwise (fun a b => a ≤ b) ∧ Collected D left s0 ∧ Below w.heap.size w wr)
    (fun _ wr => wr.rangeLeft b w.heap.size)
  case atStart =>
    exact ⟨_, _, [], [], hrg0, by simp, ⟨rfl, Or.inl ⟨rfl, rfl⟩⟩, List.Perm.refl _, List.Pairwise.nil, Collected.start D, (Below.refl _ _).grown Hg0.out (Nat.le_refl _) (fun j hj => by cases hj)⟩
  case round =>
    obtain ⟨left, cnt, ss, s0, hrg, hcs, hrow, hperm, hsort, hC, hnx⟩ := hrel
    have HSrt := hide hsort
    clear hsort
    obtain ⟨a3, c3, rfl⟩ := hrow.shape
    have Hrow := hide hrow
    have Hp := hide hperm
    have HC := hide hC
    have Hnx := hide hnx
    clear hrow hperm hC hnx
    go_wp2_with (first
      | (at_next; refine wpList_next_ranges _ rfl _ rfl 9 lawS (plainElem Tryz.prog 3) encStr (Value.int .i64) invK invV b w.heap.size n _ _ _ rfl hrg ?_ ?_)
      | fail)
    · intro hc0 hl0
      have Hl0 := hide hl0
      clear hl0
      go_wp2_with fail
      go_ret
      exact ⟨_, ss, rfl, Hrow.out, Hp.out.trans (HC.out.perm HO.out lawS Tryz.underlying9 Hl0.out), HSrt.out, Hnx.out⟩
    · intro x c kl yd yp w2 cnt2 hkey hlk hv hat hrg2 hlt hg2 hs2 hen
      obtain ⟨x', ex, rfl, hxl⟩ := Maps.keyOf_str Tryz.underlying9 hkey
      obtain rfl : x = x' := encStr_inj ex
      have hrow2 : Texts w2 w.heap.size _ ss := Hrow.out.kept hg2 (Or.inr (row_ne_iter Hrow.out hrg).symm)
      have HC2 := hide (HC.out.step hlk hat)
      have Hb2 : Hid (Below w.heap.size w w2) := Hnx.out.grown hg2 Hnx.out.size (fun j hj => by cases hj; exact Nat.le_refl _)
      have Hrg2 := hide hrg2
      have HM : Hid (cnt2 < wr.rangeLeft b w.heap.size) := by rw [hrg.left_eq]; exact hlt
      have hcnt : ss.length + 1 + cnt2 ≤ Maps.size D := by omega
      have hB2 : w.heap.size ≤ w2.heap.size := Hb2.out.size
      have hrl : some w.heap.size ≠ Value.ownBlock (.slice a3 ss.length c3) := row_ne_iter hrow2 hrg2
      have hbytes : (ss.length + 1) * 16 ≤ 140737488355328 := by unfold big at hsize; omega
      have h63 : ss.length + 1 ≤ maxLen := by unfold maxLen; unfold big at hsize; omega
      clear hs2 hkey hlk hv hat ex hg2 hrg2 hlt
      go_wp2_with (first
        | (at_builtin; refine wpList_append_lies _ rfl _ _ 85 rfl w.heap.size 9 i0 (.string ⟨#[]⟩) 1 16 Tryz.underlying85 hi hz0 hz1 hz2 rfl (by decide) _ _ _ rfl (hrow2.alloc _) ⟨w2.heap.size, 0, none⟩ 1 1 [encStr x] rfl rfl (cell_one_new _ _ _) (by simp [Value.oneCell', encStr]) (by decide) h63 hbytes (by simp; omega) (w2.heap.size + 1) (by simp) ?_; intro g cap w3 hown3 hg3 hat3 hlt3; go_frame)
        | fail)
      have hlen : (ss.map encStr ++ [encStr x]) = (ss ++ [x]).map encStr := by simp
      have hR3 : RowS w3 g cap (ss ++ [x]) := RowS.of (by rw [← hlen]; simpa using hown3)
      have hrg3 : RG w3 b w.heap.size n D _ cnt2 := (Hrg2.out.alloc _).kept hg3 (row_ne_low hrow2 hbl) hrl
      have hb3 : Below w.heap.size w w3 := (Hb2.out.alloc hB2 _).grown hg3 (by simp; omega) (fun j hj => (hrow2.lt j hj).1)
      have hgB : w.heap.size ≤ g := by
        rcases hat3 with h | h
        · exact (hrow2.lt g h).1
        · omega
      have hgr : w.heap.size ≠ g := by
        rcases hat3 with h | h
        · intro e; rw [e] at hrl; exact hrl h.symm
        · have := Hrg2.out.lt; omega
      have hbg : b ≠ g := by omega
      have HR3 := hide hR3
      have Hrg3 := hide hrg3
      have Hb3 := hide hb3
      clear hlen hR3 hrg3 hb3 hown3 hg3 hat3 hrl hrow2 hen
      go_loopw [5] (fun i wq => ∃ (k : Nat) (ys : List (List UInt8)), i = .int .i64 k ∧ k ≤ ss.length ∧ ys.length = ss.length + 1 ∧ RowS wq g cap ys ∧ (ys.set k x).Perm (ss ++ [x]) ∧ (ys.take k ++ ys.drop (k + 1) = ss ∧ ∀ y ∈ ys.drop (k + 1), x ≤ y) ∧
          RG wq b w.heap.size n D (fun z => left z && !z.sameKey (.string x)) cnt2 ∧ Below w.heap.size w wq) (fun i _ => (intOf i).toNat)
      case atStart => exact ⟨ss.length, ss ++ [x], rfl, Nat.le_refl _, by simp, HR3.out, by simp, ⟨by simp, fun y hy => by simp at hy⟩, Hrg3.out, Hb3.out⟩
      case round =>
        obtain ⟨k, ys, rfl, hk, hyl, hR, hP, hH, hrgq, hbq⟩ := hrel
        have HH := hide hH
        clear hH
        have HR := hide hR
        have HP := hide hP
        have Hrgq := hide hrgq
        have Hbq := hide hbq
        clear hR hP hrgq hbq
        have hck : wr.cell? ⟨g, k, none⟩ = some (encStr (ys[k]'(by omega))) := HR.out.cell k (by omega)
        have hfk : wr.frozen? ⟨g, k, none⟩ = false := HR.out.frozen k
        have hkI : (k : Int) < (ss.length : Int) + 1 := by omega
        rcases k with _ | j
        · go_wp2_with fail
          go_roundw
          case rel => exact ⟨_, cnt2, ys.set 0 x, s0 ++ [x], rg_set Hrgq.out hbg hgr _ _, by simp [hyl]; omega, by have := (HR.out.set 0 x).texts hgB; simpa [hyl] using this, HP.out.trans (Hp.out.append_right [x]), insert_sorted (by omega) HH.out.1 HSrt.out HH.out.2 (by simp), HC2.out, Hbq.out.setCell hgB _⟩
          case measure => rw [(rg_set Hrgq.out hbg hgr _ _).left_eq]; exact HM.out
        · have hcj : wr.cell? ⟨g, j, none⟩ = some (encStr (ys[j]'(by omega))) := HR.out.cell j (by omega)
          have hjl : j + 1 < ys.length := by omega
          by_cases hxy : x < ys[j]'(by omega)
          · have hb1 : Op.bytesLess (ys[j]'(by omega)) x = false := by rw [bytesLess_eq]; exact decide_eq_false (List.lt_asymm hxy)
            have hb2 : ((ys[j]'(by omega)) == x) = false := beq_eq_false_iff_ne.2 (fun e => by rw [e] at hxy; exact List.lt_irrefl _ hxy)
            have Hxy := hide hxy
            clear hxy
            go_wp2_with fail
            go_roundw
            case rel => exact ⟨j, ys.set (j + 1) (ys[j]'(by omega)), rfl, by omega, by simpa using hyl, HR.out.set (j + 1) _, (perm_shift ys j x (by omega)).trans HP.out, ⟨(shift_hole hjl).1.trans HH.out.1, fun y hy => by
              rw [(shift_hole hjl).2] at hy
              rcases List.mem_cons.1 hy with rfl | hy
              · exact List.le_of_lt Hxy.out
              · exact HH.out.2 y hy⟩, rg_set Hrgq.out hbg hgr _ _, Hbq.out.setCell hgB _⟩
            case measure => simp [intOf]
          · have hle : ys[j]'(by omega) ≤ x := List.not_lt.1 hxy
            have HIns := hide (insert_sorted hjl HH.out.1 HSrt.out HH.out.2 (take_le (by omega) HH.out.1 HSrt.out hle))
            by_cases heq : ys[j]'(by omega) = x
            · have hb1 : Op.bytesLess (ys[j]'(by omega)) x = false := by rw [bytesLess_eq, heq]; exact decide_eq_false (List.lt_irrefl _)
              have hb2 : ((ys[j]'(by omega)) == x) = true := by rw [heq]; simp
              clear hxy hle heq
              go_wp2_with fail
              go_roundw
              case rel => exact ⟨_, cnt2, ys.set (j + 1) x, s0 ++ [x], rg_set Hrgq.out hbg hgr _ _, by simp [hyl]; omega, by have := (HR.out.set (j + 1) x).texts hgB; simpa [hyl] using this, HP.out.trans (Hp.out.append_right [x]), HIns.out, HC2.out, Hbq.out.setCell hgB _⟩
              case measure => rw [(rg_set Hrgq.out hbg hgr _ _).left_eq]; exact HM.out
            · have hlt2 : ys[j]'(by omega) < x := Classical.byContradiction fun h => heq (List.le_antisymm hle (List.not_lt.1 h))
              have hb1 : Op.bytesLess (ys[j]'(by omega)) x = true := by rw [bytesLess_eq]; exact decide_eq_true hlt2
              clear hxy hle heq hlt2
              go_wp2_with fail
              go_roundw
              case rel => exact ⟨_, cnt2, ys.set (j + 1) x, s0 ++ [x], rg_set Hrgq.out hbg hgr _ _, by simp [hyl]; omega, by have := (HR.out.set (j + 1) x).texts hgB; simpa [hyl] using this, HP.out.trans (Hp.out.append_right [x]), HIns.out, HC2.out, Hbq.out.setCell hgB _⟩
              case measure => rw [(rg_set Hrgq.out hbg hgr _ _).left_eq]; exact HM.out

theorem refNames_any (m : Option Nat) (D : DataW Unit) (w : World) (h : MapAt w m D) :
    Calls Tryz.prog 78 #[.map m] w fun e w' => ∃ v ss, e = .returned v ∧ Texts w' w.heap.size v ss ∧ ss.Perm (strKeys D) ∧ ss.Pairwise (fun a b => a ≤ b) ∧ Below w.heap.size w w' := by
  rcases h with ⟨rfl, rfl⟩ | ⟨b, n, rfl, h2, h3⟩
  · refine (refNames_nil w).mono ?_
    rintro e w' ⟨rfl, hb⟩
    exact ⟨_, [], rfl, ⟨rfl, Or.inl ⟨rfl, rfl⟩⟩, List.Perm.refl _, List.Pairwise.nil, hb⟩
  · exact refNames_some b n D w h2 h3
end Go.Proofs.YtojpjaifhjigfaaGreatDoor

/- conduitref.Good: is it a configuration? -/
namespace Go.Proofs.YtojpjaifhjigfaaGreatDoor
open Go.RowKit Go.Maps

theorem mem_strKeys {w : World} {b n : Nat} {D : DataW Unit} (h : OM w b n D) (x : List UInt8) : x ∈ strKeys D ↔ Maps.has D (.string x) = true := by
  obtain ⟨es, rfl, hk⟩ := h.keysOf
  have hk' : ∀ p ∈ es, ∃ y, p.1 = .string y := fun p hp => by
    obtain ⟨v, hv⟩ := hk p hp
    obtain ⟨y, _, hy, _⟩ := Maps.keyOf_str Tryz.underlying9 hv
    exact ⟨y, hy⟩
  rw [has_eq, List.any_eq_true]
  show x ∈ es.map (fun p => strOf p.1) ↔ _
  rw [List.mem_map]
  constructor
  · rintro ⟨p, hp, rfl⟩
    obtain ⟨y, hy⟩ := hk' p hp
    exact ⟨p, hp, by rw [hy]; simp [Lit.sameKey, strOf]⟩
  · rintro ⟨p, hp, hs⟩
    obtain ⟨y, hy⟩ := hk' p hp
    rw [hy] at hs
    exact ⟨p, hp, by rw [hy]; simpa [Lit.sameKey, strOf] using hs⟩
theorem size_strKeys {w : World} {b n : Nat} {D : DataW Unit} (h : OM w b n D) : (strKeys D).length = Maps.size D := by
  obtain ⟨es, rfl, _⟩ := h.keysOf
  simp [strKeys, Maps.size]
theorem keyOfStr {x : List UInt8} (h : x.length ≤ maxLen) : keyOf Tryz.prog 9 (encStr x) = some (.string x) := by
  simp [keyOf, Tryz.underlying9, mapKey, encStr, ByteArray.size, h]

/-- What stands at a key that is there, and that a look-up finds it in every world in which the map lies so. -/
theorem look_at {w : World} {b n : Nat} {D : DataW Unit} (h : OM w b n D) {x : List UInt8} (hx : Maps.has D (.string x) = true) :
    ∃ c, At D x c ∧ ∀ w' n', OM w' b n' D → (Instr.lookup 22 (.map (some b)) (encStr x) false).run Tryz.prog w' = .ok (.int .i64 c) w' := by
  have hl : x.length ≤ maxLen := strKeys_le h Tryz.underlying9 x ((mem_strKeys h x).2 hx)
  have hkey := keyOfStr hl
  obtain ⟨c, _, hat, _⟩ := h.lookup_int lawS Tryz.underlying22 Tryz.underlying3 (zeroInt w) hkey
  have hAt : At D x c := fun zd => by
    rw [← hat]
    obtain ⟨es, rfl, _⟩ := h.keysOf
    rw [has_eq, List.any_eq_true] at hx
    obtain ⟨p, hp, hs⟩ := hx
    cases hf : es.find? (fun p => p.1.sameKey (.string x)) with
    | none => exact absurd hs (by have := List.find?_eq_none.1 hf p hp; simpa using this)
    | some q => simp [DataW.atKey, hf]
  refine ⟨c, hAt, fun w' n' h' => ?_⟩
  obtain ⟨c', hrun, hat', _⟩ := h'.lookup_int lawS Tryz.underlying22 Tryz.underlying3 (zeroInt w') hkey
  have : c = c' := by
    have := hat.symm.trans hat'
    simpa using this
  rw [this]; exact hrun

theorem Texts.head {w : World} {B : Nat} {a : Option Addr} {c : Nat} {ss : List (List UInt8)} (h : Texts w B (.slice a ss.length c) ss) (h0 : 0 < ss.length) : ∃ g, a = some ⟨g, 0, none⟩ ∧ RowS w g c ss ∧ B ≤ g := by
  rcases h.2 with ⟨_, h1⟩ | ⟨g, cap, cur, h1, h2, _⟩
  · omega
  · simp only [Value.slice.injEq, true_and] at h1
    obtain ⟨rfl, rfl⟩ := h1
    exact ⟨g, rfl, RowS.of h, h2⟩

/-- It answers whether p holds. -/
def BoolIff (e : Ending) (p : Prop) : Prop := ∃ r, e = .returned (.bool r) ∧ (r = true ↔ p)
theorem BoolIff.no {p : Prop} (h : ¬ p) : BoolIff (.returned (.bool false)) p := ⟨false, rfl, by simp [h]⟩
theorem BoolIff.yes {p : Prop} (h : p) : BoolIff (.returned (.bool true)) p := ⟨true, rfl, by simp [h]⟩
theorem BoolIff.mk {p : Prop} {r : Bool} (h : r = true ↔ p) : BoolIff (.returned (.bool r)) p := ⟨r, rfl, h⟩

/-- The numbers besides the map, in the order in which Good asks. -/
def Cfg.firstB (c : Cfg) (n : Nat) : Bool := decide (1 ≤ c.d) && decide (c.d ≤ 4) && decide (1 ≤ (n : Int)) && decide ((n : Int) ≤ 8) && decide (1 ≤ c.q) && decide (c.q ≤ 120) && decide (1 ≤ c.at') && decide (c.at' ≤ 10)
def Cfg.timesB (c : Cfg) : Bool := decide (1 ≤ c.ba) && decide (c.ba ≤ c.ca) && decide (c.ca ≤ 60000) && decide (1 ≤ c.ti) && decide (c.ti ≤ 60000) && decide (1 ≤ c.op) && decide (c.op ≤ 60000)
def Cfg.restB (c : Cfg) : Bool := decide (1 ≤ c.wi) && decide (c.wi ≤ 64) && decide (1 ≤ c.le) && decide (c.le ≤ c.wi) && thB c.th

theorem Cfg.good_iff (c : Cfg) (n : Nat) : (c.firstB n && c.timesB && c.restB) = true ↔ c.numB = true ∧ (1 ≤ n ∧ n ≤ 8) ∧ thB c.th = true := by
  simp only [Cfg.firstB, Cfg.timesB, Cfg.restB, Cfg.numB, Cfg.nums, inB, List.all_cons, List.all_nil, Bool.and_eq_true, decide_eq_true_eq, Bool.and_true]
  constructor
  · rintro ⟨⟨⟨⟨⟨⟨⟨⟨⟨a1, a2⟩, a3⟩, a4⟩, a5⟩, a6⟩, a7⟩, a8⟩, ⟨⟨⟨⟨⟨⟨b1, b2⟩, b3⟩, b4⟩, b5⟩, b6⟩, b7⟩⟩, ⟨⟨⟨⟨c1, c2⟩, c3⟩, c4⟩, c5⟩⟩
    exact ⟨⟨⟨a1, a2⟩, ⟨a5, a6⟩, ⟨a7, a8⟩, ⟨by omega, b3⟩, ⟨b1, b2⟩, ⟨b4, b5⟩, ⟨b6, b7⟩, ⟨c1, c2⟩, ⟨c3, c4⟩⟩, ⟨by omega, by omega⟩, c5⟩
  · rintro ⟨⟨⟨a1, a2⟩, ⟨a5, a6⟩, ⟨a7, a8⟩, ⟨_, b3⟩, ⟨b1, b2⟩, ⟨b4, b5⟩, ⟨b6, b7⟩, ⟨c1, c2⟩, ⟨c3, c4⟩⟩, ⟨d1, d2⟩, c5⟩
    exact ⟨⟨⟨⟨⟨⟨⟨⟨⟨a1, a2⟩, by omega⟩, by omega⟩, a5⟩, a6⟩, a7⟩, a8⟩, ⟨⟨⟨⟨⟨⟨b1, b2⟩, b3⟩, b4⟩, b5⟩, b6⟩, b7⟩⟩, ⟨⟨⟨⟨c1, c2⟩, c3⟩, c4⟩, c5⟩⟩

set_option maxRecDepth 100000 in
set_option maxHeartbeats 2000000 in
theorem good_any (c : Cfg) (m : Option Nat) (D : DataW Unit) (w : World) (h : MapAt w m D) : Calls Tryz.prog 41 #[c.val m] w fun e w' => BoolIff e (GoodC c D) ∧ Below w.heap.size w w' := by
  have H := hide h
  clear h
  go_enter Tryz.func41, Tryz.ntmps41
  go_wp2_with fail
  refine (refNames_any m D _ (H.out.alloc _)).mono ?_
  rintro e w1 ⟨v, ss, rfl, hT, hP, _, hb1⟩
  obtain ⟨a3, c3, hv⟩ := hT.shape
  subst hv
  have HT := hide hT
  have HP := hide hP
  have Hb1 : Hid (Below w.heap.size w w1) := ((Below.refl _ _).alloc (Nat.le_refl _) _).trans (hb1.mono (by simp))
  have HK : Hid (Blk w1 w.heap.size (c.cells m) 25) := (Blk.new w _ _).below hb1 (by simp)
  have HM : Hid (MapAt w1 m D) := (H.out.alloc _).below hb1 (Nat.le_refl _)
  have hbig : (ss.length : Int) ≤ 8796093022208 := by
    rcases H.out with ⟨_, rfl⟩ | ⟨b, n, _, h2, h3⟩
    · have := HP.out.length_eq; rw [show (strKeys (.map [] : DataW Unit)).length = 0 from rfl] at this; omega
    · have := HP.out.length_eq; rw [size_strKeys h2] at this; have := h2.size_le; unfold big at h3; omega
  clear hT hP hb1
  go_wp2_with fail
  go_loopw [4] (fun i wr => ∃ k n : Nat, k ≤ ss.length ∧ i = .int .i64 k ∧ wr = w1.drewN n ∧ ∀ j x, j < k → ss[j]? = some x → ∀ q, At D x q → okKV x q = true) (fun i _ => ss.length - (intOf i).toNat)
  case atStart => exact ⟨0, 0, Nat.zero_le _, rfl, rfl, fun j x hj => absurd hj (Nat.not_lt_zero _)⟩
  case round =>
    obtain ⟨k, nd, hk, rfl, rfl, hall⟩ := hrel
    have Hall := hide hall
    clear hall
    by_cases hlt : k < ss.length
    · have hltI : (k : Int) < (ss.length : Int) := by omega
      obtain ⟨g, rfl, hR, _⟩ := HT.out.head (by omega)
      have hck : w1.cell? ⟨g, k, none⟩ = some (encStr (ss[k]'hlt)) := hR.cell k hlt
      have hc1 : w1.cell? ⟨w.heap.size, 1, none⟩ = some (.map m) := HK.out.cell 1
      obtain ⟨b, n, rfl, hown⟩ : ∃ b n, m = some b ∧ OM w1 b n D := by
        rcases HM.out with ⟨_, rfl⟩ | ⟨b, n, h1, h2, _⟩
        · have := HP.out.length_eq; rw [show (strKeys (.map [] : DataW Unit)).length = 0 from rfl] at this; omega
        · exact ⟨b, n, h1, h2⟩
      have hin : ss[k] ∈ strKeys D := HP.out.mem_iff.1 (List.getElem_mem hlt)
      obtain ⟨q, hAt, hlook⟩ := look_at hown ((mem_strKeys hown _).1 hin)
      have hlk := fun nq => hlook (w1.drewN nq) n hown
      have HA := hide hAt
      have HX : Hid (∀ y q', ss[k]? = some y → At D y q' → okKV y q' = okKV (ss[k]'hlt) q) := fun y q' e h' => by
        rw [List.getElem?_eq_getElem hlt] at e
        obtain rfl := Option.some.inj e
        rw [HA.out.eq h']
      have Hlen : Hid (ss[k].length ≤ maxLen) := strKeys_le hown Tryz.underlying9 _ hin
      clear hR hown hin hlook hAt
      generalize hx : ss[k]'hlt = x at *
      clear hx
      go_wp2_with fail
      go_quiet (fail)
      go_wp2_with fail
      all_goals first
        | (have hno : okKV x q = false := by
             cases h : okKV x q with
             | false => rfl
             | true => simp [okKV, inB] at h; omega
           go_ret
           exact ⟨BoolIff.no (fun h => by have := h.2.1.2 x q HA.out; rw [hno] at this; cases this), below_drewN Hb1.out _⟩)
        | (have hyes : okKV x q = true := by simp [okKV, inB]; omega
           go_roundw
           case rel => exact ⟨k + 1, _, by omega, by go_num, rfl, fun j y hj hy q' h' => by
             rcases Nat.lt_or_ge j k with hjk | hjk
             · exact Hall.out j y hjk hy q' h'
             · have e : j = k := by omega
               rw [e] at hy
               rw [HX.out y q' hy h']; exact hyes⟩
           case measure => simp [intOf]; omega)
    · have hss : Hid (∀ x q, At D x q → okKV x q = true) := fun x q hAt => by
        have hx : x ∈ ss := by
          rcases HM.out with ⟨_, rfl⟩ | ⟨b, n, _, h2, _⟩
          · have := hAt.has; simp [Maps.has] at this
          · exact HP.out.mem_iff.2 ((mem_strKeys h2 x).2 hAt.has)
        obtain ⟨j, hj, rfl⟩ := List.mem_iff_getElem.1 hx
        exact Hall.out j _ (by omega) (List.getElem?_eq_getElem hj) q hAt
      have hsz : Hid (ss.length = Maps.size D) := by
        rcases HM.out with ⟨_, rfl⟩ | ⟨b, n, _, h2, _⟩
        · exact HP.out.length_eq
        · rw [← size_strKeys h2]; exact HP.out.length_eq
      have hgood : Hid ((c.firstB ss.length && c.timesB && c.restB) = true ↔ GoodC c D) := by
        show _ ↔ _
        rw [Cfg.good_iff]
        unfold GoodC GoodQ
        rw [← hsz.out]
        exact ⟨fun h => ⟨h.1, ⟨h.2.1, hss.out⟩, h.2.2⟩, fun h => ⟨h.1, h.2.1.1, h.2.2⟩⟩
      have e0 : w1.cell? ⟨w.heap.size, 0, none⟩ = some (.int .i64 c.d) := HK.out.cell 0
      have e2 : w1.cell? ⟨w.heap.size, 2, none⟩ = some (.int .i64 c.q) := HK.out.cell 2
      have e3 : w1.cell? ⟨w.heap.size, 3, none⟩ = some (.int .i64 c.at') := HK.out.cell 3
      have e4 : w1.cell? ⟨w.heap.size, 4, none⟩ = some (.int .i64 c.ba) := HK.out.cell 4
      have e5 : w1.cell? ⟨w.heap.size, 5, none⟩ = some (.int .i64 c.ca) := HK.out.cell 5
      have e6 : w1.cell? ⟨w.heap.size, 6, none⟩ = some (.int .i64 c.ti) := HK.out.cell 6
      have e7 : w1.cell? ⟨w.heap.size, 7, none⟩ = some (.int .i64 c.wi) := HK.out.cell 7
      have e8 : w1.cell? ⟨w.heap.size, 8, none⟩ = some (.int .i64 c.le) := HK.out.cell 8
      have e9 : w1.cell? ⟨w.heap.size, 9, none⟩ = some (.float .f64 c.th) := HK.out.cell 9
      have e10 : w1.cell? ⟨w.heap.size, 10, none⟩ = some (.int .i64 c.op) := HK.out.cell 10
      go_upto_region 8 with fail
      go_cut [6] (fun s6 wx => s6 = .bool (c.firstB ss.length) ∧ wx = w1.drewN nd)
      case first =>
        go_wp2_with fail
        all_goals (go_meet; exact ⟨congrArg Value.bool (Bool.eq_iff_iff.2 (by simp [Cfg.firstB]; omega)), rfl⟩)
      case rest =>
        obtain ⟨rfl, rfl⟩ := hcut
        go_upto_region 9 with fail
        go_cut [7] (fun s7 wx => s7 = .bool c.timesB ∧ wx = w1.drewN nd)
        case first =>
          go_wp2_with fail
          all_goals (go_meet; exact ⟨congrArg Value.bool (Bool.eq_iff_iff.2 (by simp [Cfg.timesB]; omega)), rfl⟩)
        case rest =>
          obtain ⟨rfl, rfl⟩ := hcut
          cases h1 : c.firstB ss.length
          · go_wp2_with fail
            go_ret
            exact ⟨BoolIff.no (fun h => by have := hgood.out.2 h; rw [h1] at this; cases this), below_drewN Hb1.out _⟩
          cases h2 : c.timesB
          · go_wp2_with fail
            go_ret
            exact ⟨BoolIff.no (fun h => by have := hgood.out.2 h; rw [h1, h2] at this; cases this), below_drewN Hb1.out _⟩
          have Hr : Hid (c.restB = true ↔ GoodC c D) := by
            have := hgood.out
            rw [h1, h2] at this
            exact (show c.restB = true ↔ GoodC c D by simpa using this)
          clear hgood
          go_wp2_with fail
          all_goals
            go_ret
            refine ⟨BoolIff.mk ?_, below_drewN Hb1.out _⟩
            rw [← Hr.out]
            first
              | (simp [Cfg.restB, thB, *]; done)
              | (simp [Cfg.restB, thB, *]; omega)
end Go.Proofs.YtojpjaifhjigfaaGreatDoor
