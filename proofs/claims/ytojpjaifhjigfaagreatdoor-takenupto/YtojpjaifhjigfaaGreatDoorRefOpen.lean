/- conduitref.Open of no batches: the document's agent, in new memory. -/
import Derived.Test.YtojpjaifhjigfaaGreatDoorExample
import Derived.Deep.RegionLaw
import Derived.Deep.AppendLies
import Derived.Laws.AppendOwnNone
import Derived.Deep.OwnRows
namespace Go.Proofs.YtojpjaifhjigfaaGreatDoor
open Go.RowKit Go.Maps
attribute [local go_sem] run_store_float

theorem infoInt : (Tryz.prog.info? 3).map (fun i => (i.zero, i.size, i.bytes)) = some (some (.int .i64 0), 1, 8) := by kernel_rfl
theorem infoLine : (Tryz.prog.info? 159).map (fun i => (i.zero, i.size, i.bytes)) = some (some (.agg #[.int .i64 0, .int .i64 0, .bool false, .int .i64 0, .int .i64 0, .slice none 0 0, .int .i64 0, .int .i64 0, .int .i64 0]), 9, 88) := by kernel_rfl

theorem Texts.below {w w' : World} {B : Nat} {v : Value} {ss : List (List UInt8)} (h : Texts w B v ss) {C : Nat} (hb : Below C w w') (hC : w.heap.size ≤ C) : Texts w' B v ss := by
  refine ⟨h.1, ?_⟩
  rcases h.2 with h1 | ⟨g, cap, cur, h1, h2, h3, h4⟩
  · exact Or.inl h1
  · exact Or.inr ⟨g, cap, cur, h1, h2, by rw [hb.block g (Nat.lt_of_lt_of_le (Array.getElem?_eq_some_iff.1 h3).1 hC)]; exact h3, h4⟩

/-- The cells of the document's agent. -/
abbrev refCells (c : Cfg) (m : Option Nat) (nv qv bv dv lv : Value) (t : Int) : Array Value :=
  #[.int .i64 c.d, .map m, .int .i64 c.q, .int .i64 c.at', .int .i64 c.ba, .int .i64 c.ca, .int .i64 c.ti, .int .i64 c.wi, .int .i64 c.le, .float .f64 c.th, .int .i64 c.op, nv, qv, bv, dv, lv, .int .i64 t]

/-- What the document's Open leaves: a new agent without batches. -/
def RefMade (c : Cfg) (m : Option Nat) (D : DataW Unit) (w : World) (e : Ending) (w' : World) : Prop := ∃ g nv ss qv la lk, e = .returned (.pointer (some ⟨g, 0, none⟩)) ∧ w.heap.size ≤ g ∧
  Blk w' g (refCells c m nv qv (.slice none 0 0) (.slice none 0 0) (.slice la c.d.toNat lk) 0) 109 ∧ Texts w' w.heap.size nv ss ∧ ss.Perm (strKeys D) ∧ Below w.heap.size w w'

set_option maxRecDepth 100000 in
set_option maxHeartbeats 4000000 in
theorem refOpen_any (c : Cfg) (m : Option Nat) (D : DataW Unit) (w : World) (h : MapAt w m D) (hd0 : 1 ≤ c.d) (hd1 : c.d ≤ 4) :
    Calls Tryz.prog 43 #[c.val m, .slice none 0 0, .slice none 0 0] w fun e w' => RefMade c m D w e w' := by
  have H := hide h
  have e0 := (Blk.new w (c.cells m) 25).cell
  have hB0 : Hid (Below w.heap.size w (w.alloc (.cells (c.cells m) 25))) := (Below.refl _ _).alloc (Nat.le_refl _) _
  clear h e0
  go_enter Tryz.func43, Tryz.ntmps43
  go_wp2_with fail
  generalize hV : World.alloc w _ = V
  have hK : Blk V w.heap.size (c.cells m) 25 := by rw [← hV]; exact Blk.new w _ _
  have hz : V.heap.size = w.heap.size + 1 := by rw [← hV]; simp
  have HV : Hid (MapAt V m D) := by rw [← hV]; exact H.out.alloc _
  rw [hV] at hB0
  obtain ⟨e0, e1, e2, e3, e4, e5, e6, e7, e8, e9, e10⟩ : V.cell? ⟨w.heap.size, 0, none⟩ = some (.int .i64 c.d) ∧ V.cell? ⟨w.heap.size, 1, none⟩ = some (.map (m)) ∧ V.cell? ⟨w.heap.size, 2, none⟩ = some (.int .i64 c.q) ∧ V.cell? ⟨w.heap.size, 3, none⟩ = some (.int .i64 c.at') ∧ V.cell? ⟨w.heap.size, 4, none⟩ = some (.int .i64 c.ba) ∧ V.cell? ⟨w.heap.size, 5, none⟩ = some (.int .i64 c.ca) ∧ V.cell? ⟨w.heap.size, 6, none⟩ = some (.int .i64 c.ti) ∧ V.cell? ⟨w.heap.size, 7, none⟩ = some (.int .i64 c.wi) ∧ V.cell? ⟨w.heap.size, 8, none⟩ = some (.int .i64 c.le) ∧ V.cell? ⟨w.heap.size, 9, none⟩ = some (.float .f64 c.th) ∧ V.cell? ⟨w.heap.size, 10, none⟩ = some (.int .i64 c.op) := ⟨hK.cell 0, hK.cell 1, hK.cell 2, hK.cell 3, hK.cell 4, hK.cell 5, hK.cell 6, hK.cell 7, hK.cell 8, hK.cell 9, hK.cell 10⟩
  have HK := hide hK
  have hlt : w.heap.size < V.heap.size := by omega
  clear hV hK
  go_region_held3 (fun w' => w'.cell? ⟨w.heap.size, 0, none⟩ = some (.int .i64 c.d) ∧ w'.cell? ⟨w.heap.size, 1, none⟩ = some (.map (m)) ∧ w'.cell? ⟨w.heap.size, 2, none⟩ = some (.int .i64 c.q) ∧ w'.cell? ⟨w.heap.size, 3, none⟩ = some (.int .i64 c.at') ∧ w'.cell? ⟨w.heap.size, 4, none⟩ = some (.int .i64 c.ba) ∧ w'.cell? ⟨w.heap.size, 5, none⟩ = some (.int .i64 c.ca) ∧ w'.cell? ⟨w.heap.size, 6, none⟩ = some (.int .i64 c.ti) ∧ w'.cell? ⟨w.heap.size, 7, none⟩ = some (.int .i64 c.wi) ∧ w'.cell? ⟨w.heap.size, 8, none⟩ = some (.int .i64 c.le) ∧ w'.cell? ⟨w.heap.size, 9, none⟩ = some (.float .f64 c.th) ∧ w'.cell? ⟨w.heap.size, 10, none⟩ = some (.int .i64 c.op)) (go_keep)
    (first
      | (go_at_call 78; refine (refNames_any m D _ (HV.out.below (below_drewN (Below.refl V.heap.size V) 1) (Nat.le_refl _))).mono ?_; rintro e w1 ⟨nv, ss, rfl, hT, hP, hb1⟩; obtain ⟨na, nk, rfl⟩ := hT.shape; have hc1 := fun o => hb1.cell (p := ⟨w.heap.size, o, none⟩) hlt; have Hb1 := hide hb1; have HT := hide hT; have HP := hide hP; have hz1 : V.heap.size ≤ w1.heap.size := hb1.size; clear hb1 hT hP))
  go_wp2_with fail
  generalize hW : World.alloc w1 _ = W
  have hA : Blk W w1.heap.size (refCells c m (.slice na ss.length nk) (.slice none 0 0) (.slice none 0 0) (.slice none 0 0) (.slice none 0 0) 0) 109 := by rw [← hW]; exact Blk.new w1 _ _
  have hbW : Below w1.heap.size w1 W := by rw [← hW]; exact (Below.refl _ _).alloc (Nat.le_refl _) _
  have hb1 : Below w.heap.size w w1 := (below_drewN hB0.out 1).trans (Hb1.out.mono (show w.heap.size ≤ V.heap.size by omega))
  have HK1 : Hid (Blk w1 w.heap.size (c.cells m) 25) := (HK.out.drewN 1).below Hb1.out hlt
  have HM1 : Hid (MapAt w1 m D) := HV.out.below (w' := w1) ((below_drewN (Below.refl V.heap.size V) 1).trans Hb1.out) (Nat.le_refl _)
  have HA := hide hA
  have HbW := hide hbW
  have HB1 := hide hb1
  have hGs : w.heap.size < w1.heap.size := by omega
  have hbig : (ss.length : Int) ≤ 8796093022208 := by
    rcases H.out with ⟨_, rfl⟩ | ⟨b, n, _, h2, h3⟩
    · have := HP.out.length_eq; rw [show (strKeys (.map [] : DataW Unit)).length = 0 from rfl] at this; omega
    · have := HP.out.length_eq; rw [size_strKeys h2] at this; have := h2.size_le; unfold big at h3; omega
  have HT1 : Hid (Texts w1 w.heap.size (.slice na ss.length nk) ss) := HT.out.mono_base (by show w.heap.size ≤ V.heap.size; omega)
  clear hW hA hbW hb1 hc1 e0 e1 e2 e3 e4 e5 e6 e7 e8 e9 e10
  generalize hG : w1.heap.size = G at *
  have HGe := hide hG
  clear hG
  go_loopw [8] (fun i wr => ∃ (k : Nat) (qa : Option Addr) (qk : Nat) (qs : List Value), k ≤ ss.length ∧ i = .int .i64 k ∧ wr.ownsRow (G + 1) 3 1 (.slice qa k qk) k qs ∧
      Blk wr G (refCells c m (.slice na ss.length nk) (.slice qa k qk) (.slice none 0 0) (.slice none 0 0) (.slice none 0 0) 0) 109 ∧ Below G w1 wr) (fun i _ => ss.length - (intOf i).toNat)
  case atStart => exact ⟨0, none, 0, [], Nat.zero_le _, rfl, ⟨rfl, Or.inl ⟨rfl, rfl⟩⟩, HA.out, HbW.out⟩
  case round =>
    obtain ⟨k, qa, qk, qs, hk, rfl, hq, hag, hnx⟩ := hrel
    have Hq := hide hq
    have Hag := hide hag
    have Hnx := hide hnx
    have hGw : G < wr.heap.size := hag.lt
    have a11 : wr.cell? ⟨G, 11, none⟩ = some (.slice na ss.length nk) := hag.cell 11
    by_cases hlt2 : k < ss.length
    · have hltI : (k : Int) < (ss.length : Int) := by omega
      obtain ⟨g0, rfl, hR, hg0⟩ := HT1.out.head (by omega)
      have hg0G : g0 < G := by obtain ⟨cur, hc, _⟩ := hR; have := hc.lt; have := HGe.out; omega
      have hck : wr.cell? ⟨g0, k, none⟩ = some (encStr (ss[k]'hlt2)) := by rw [hnx.cell (p := ⟨g0, k, none⟩) hg0G]; exact hR.cell k hlt2
      have hc1 : wr.cell? ⟨w.heap.size, 1, none⟩ = some (.map m) := by rw [hnx.cell (p := ⟨w.heap.size, 1, none⟩) hGs]; exact HK1.out.cell 1
      have a12 : wr.cell? ⟨G, 12, none⟩ = some (.slice qa k qk) := hag.cell 12
      have f12 : wr.frozen? ⟨G, 12, none⟩ = false := hag.frozen 12
      obtain ⟨b, n, rfl, hown⟩ : ∃ b n, m = some b ∧ OM w1 b n D := by
        rcases HM1.out with ⟨_, rfl⟩ | ⟨b, n, h1, h2, _⟩
        · have := HP.out.length_eq; rw [show (strKeys (.map [] : DataW Unit)).length = 0 from rfl] at this; omega
        · exact ⟨b, n, h1, h2⟩
      have hin : ss[k] ∈ strKeys D := HP.out.mem_iff.1 (List.getElem_mem hlt2)
      obtain ⟨q, hAt, hlook⟩ := look_at hown ((mem_strKeys hown _).1 hin)
      have hbG : b < G := by have := hown.lt; have := HGe.out; omega
      have hlk := hlook wr.drew n (om_below hown Hnx.out hbG).drew
      have hlk2 := fun o => hlook (wr.drew.alloc o) n ((om_below hown Hnx.out hbG).drew.alloc o)
      obtain ⟨i0, hi, hz0, hz1, hz2⟩ := info_parts infoInt
      clear hR hown hin hlook hAt hnx hag
      generalize hx : ss[k]'hlt2 = x at *
      clear hx
      go_wp2_with fail
      go_region_law (refine step_append_lies _ (by rfl) _ _ _ (by rfl) (G + 1) 3 i0 _ 1 8 Tryz.underlying51 hi hz0 hz1 hz2 rfl (by omega) (.slice qa k qk) k qs (by rfl) ((hq.alloc _).drew) ⟨wr.heap.size, 0, none⟩ 1 1 [.int .i64 q] (by rfl) (by rfl) (World.news_of_block (cs := #[.int .i64 q]) (t := 3) (fr := (0, 0)) (heap_alloc_new wr _)) (by simp [Value.oneCell']) (by omega) (by unfold maxLen; omega) (by omega) (by simp; omega) (wr.heap.size + 1) (by simp) ?_; intro gg cap w2 hown2 hgrow hat hlt3; have hBk := Blk.grown (w := World.drew (World.alloc wr _)) (Hag.out.alloc _) hgrow (fun e => absurd (hq.lt G e.symm).1 (by omega)); have c12 := hBk.cell 12; have f12' := hBk.frozen 12; simp at c12; have HBk := hide hBk; clear hBk)
      all_goals
        have hB2 : Below G w1 w2 := ((Hnx.out.alloc (by omega) _).drew).grown hgrow (by simp; omega) (fun j hj => by have := (hq.lt j hj).1; omega)
        have Hown2 := hide hown2
        have HB2 := hide hB2
        clear hown2 hB2 hgrow hat hq c12 f12' hlk hlk2 hck hc1 a12 f12 a11
        go_wp2_with fail
        go_roundw
        case rel => exact ⟨k + 1, _, _, _, by omega, by go_num, ownsRow_setCell_below Hown2.out (by simp) _, HBk.out.set 12 _, HB2.out.setCell (by simp) _⟩
        case measure => simp [intOf]; omega
    · clear hq hag hnx
      have a14 : wr.cell? ⟨G, 14, none⟩ = some (.slice none 0 0) := Hag.out.cell 14
      have f14 : wr.frozen? ⟨G, 14, none⟩ = false := Hag.out.frozen 14
      obtain ⟨i0, hi, hz0, hz1, hz2⟩ := info_parts infoInt
      have hrow : wr.ownsRow 0 3 1 (.slice none 0 0) 0 [] := ⟨rfl, Or.inl ⟨rfl, rfl⟩⟩
      go_wp2_with fail
      refine wp_loop_rounds 1 ?_
      rw [rounds_succ]
      go_wp2_with (first
        | (at_builtin; refine wpList_append_own_none rfl _ _ 51 rfl 0 3 i0 1 Tryz.underlying51 hi _ 0 [] rfl hrow rfl ?_)
        | fail)
      have hA3 : Blk (wr.setCell ⟨G, 14, none⟩ (.slice none 0 0)) G (refCells c m (.slice na ss.length nk) (.slice qa k qk) (.slice none 0 0) (.slice none 0 0) (.slice none 0 0) 0) 109 := Hag.out.set 14 _
      have hB3 : Below G w1 (wr.setCell ⟨G, 14, none⟩ (.slice none 0 0)) := Hnx.out.setCell (by simp) _
      have HA3 := hide hA3
      have HB3 := hide hB3
      clear hA3 hB3 a14 f14 hrow a11
      generalize hW3 : wr.setCell ⟨G, 14, none⟩ (.slice none 0 0) = W3 at *
      clear hW3
      obtain ⟨d, hd⟩ : ∃ d : Nat, c.d = d := ⟨c.d.toNat, by omega⟩
      have hd4 : d ≤ 4 := by omega
      have HD := hide hd
      clear hd
      go_loopw [11] (fun i wq => ∃ (j : Nat) (la : Option Addr) (lk : Nat) (ls : List Value), j ≤ d ∧ i = .int .i64 j ∧ wq.ownsRow (G + 1) 159 9 (.slice la j lk) j ls ∧
          Blk wq G (refCells c m (.slice na ss.length nk) (.slice qa k qk) (.slice none 0 0) (.slice none 0 0) (.slice la j lk) 0) 109 ∧ Below G w1 wq) (fun i _ => d - (intOf i).toNat)
      case atStart => exact ⟨0, none, 0, [], Nat.zero_le _, rfl, ⟨rfl, Or.inl ⟨rfl, rfl⟩⟩, HA3.out, HB3.out⟩
      case round =>
        obtain ⟨j, la, lk, ls, hj, rfl, hq, hag, hnx⟩ := hrel
        have Hag4 := hide hag
        have Hnx4 := hide hnx
        have hGw4 : G < wr.heap.size := hag.lt
        have hc0 : wr.cell? ⟨w.heap.size, 0, none⟩ = some (.int .i64 c.d) := by rw [hnx.cell (p := ⟨w.heap.size, 0, none⟩) hGs]; exact HK1.out.cell 0
        by_cases hjd : j < d
        · have hjI : (j : Int) < (d : Int) := by omega
          have hjc : (j : Int) < c.d := by rw [HD.out]; omega
          have b11 : wr.cell? ⟨G, 11, none⟩ = some (.slice na ss.length nk) := hag.cell 11
          have b15 : wr.cell? ⟨G, 15, none⟩ = some (.slice la j lk) := hag.cell 15
          have g15 : wr.frozen? ⟨G, 15, none⟩ = false := hag.frozen 15
          have hmk := fun w => run_make_row' (P := Tryz.prog) 51 3 (.int .i64 0) 8 Tryz.underlying51 infoInt rfl .i64 .i64 ss.length (by omega) (by omega) w
          obtain ⟨i1, hi1, hy0, hy1, hy2⟩ := info_parts infoLine
          clear hag hnx
          go_wp2_with fail
          go_region_law (refine step_append_lies _ (by rfl) _ _ _ (by rfl) (G + 1) 159 i1 _ 9 88 Tryz.underlying107 hi1 hy0 hy1 hy2 rfl (by omega) (.slice la j lk) j ls (by rfl) (((hq.alloc _).alloc _).drew) ⟨wr.heap.size + 1, 0, none⟩ 1 1 [.int .i64 0, .int .i64 0, .bool false, .int .i64 0, .int .i64 0, .slice (some ⟨wr.heap.size, 0, none⟩) ss.length ss.length, .int .i64 0, .int .i64 (-1), .int .i64 0] (by rfl) (by rfl) (World.news_of_block (cs := #[.int .i64 0, .int .i64 0, .bool false, .int .i64 0, .int .i64 0, .slice (some ⟨wr.heap.size, 0, none⟩) ss.length ss.length, .int .i64 0, .int .i64 (-1), .int .i64 0]) (t := 159) (fr := (0, 0)) (Blk.made (by simp) _ _)) (by simp [Value.oneCell']) (by omega) (by unfold maxLen; omega) (by omega) (by simp; omega) (wr.heap.size + 1 + 1) (by simp) ?_; intro gg cap w2 hown2 hgrow hat hlt3; have hBk := Blk.grown (w := World.drew (World.alloc (World.alloc wr _) _)) ((Hag4.out.alloc _).alloc _) hgrow (fun e => absurd (hq.lt G e.symm).1 (by omega)); have c15 := hBk.cell 15; have g15' := hBk.frozen 15; simp at c15; have HBk := hide hBk; clear hBk)
          all_goals
            have hB2 : Below G w1 w2 := (((Hnx4.out.alloc (by omega) _).alloc (by simp; omega) _).drew).grown hgrow (by simp; omega) (fun j hj => by have := (hq.lt j hj).1; omega)
            have Hown2 := hide hown2
            have HB2 := hide hB2
            clear hown2 hB2 hgrow hat hq c15 g15' b11 b15 g15 hmk
            go_wp2_with fail
            go_roundw
            case rel => exact ⟨j + 1, _, _, _, by omega, by go_num, ownsRow_setCell_below Hown2.out (by simp) _, HBk.out.set 15 _, HB2.out.setCell (by simp) _⟩
            case measure => simp [intOf]; omega
        · have hjd' : ¬ (j : Int) < c.d := by rw [HD.out]; omega
          have hje : j = c.d.toNat := by rw [HD.out]; omega
          have Hje := hide hje
          clear hje hag hnx hq
          go_wp2_with fail
          go_ret
          refine ⟨G, _, ss, _, la, lk, rfl, by omega, by rw [← Hje.out]; exact Hag4.out, ?_, HP.out, HB1.out.trans (Hnx4.out.mono (by omega))⟩
          exact HT1.out.below Hnx4.out (by have := HGe.out; omega)
end Go.Proofs.YtojpjaifhjigfaaGreatDoor
