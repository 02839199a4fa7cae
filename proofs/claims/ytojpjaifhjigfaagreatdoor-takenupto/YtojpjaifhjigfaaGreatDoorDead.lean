/- Dead: the ids of the dead, in new memory. -/
import Derived.Test.YtojpjaifhjigfaaGreatDoorFlat
namespace Go.Proofs.YtojpjaifhjigfaaGreatDoor
open Go.RowKit Go.Maps

theorem infoStr : (Tryz.prog.info? 9).map (fun i => (i.zero, i.size, i.bytes)) = some (some (.string ⟨#[]⟩), 1, 16) := by kernel_rfl
theorem madeStr (n : Nat) : (madeCells (Value.string ⟨#[]⟩).cells (n * 1)).toList = List.replicate n (encStr []) := by
  rw [Nat.mul_one, show (Value.string ⟨#[]⟩).cells = #[Value.string ⟨#[]⟩] from rfl, toList_madeCells_one]


/-- The ids of the dead. -/
def Ag.ids (M : Ag) : List (List UInt8) := M.dead.map fun p => ((M.bs[p]?).map (·.id)).getD []
/-- A new list of texts, with no spare room. -/
def NewTexts (w w' : World) (ss : List (List UInt8)) (e : Ending) : Prop := ∃ g, e = .returned (.slice (some ⟨g, 0, none⟩) ss.length ss.length) ∧ w.heap.size ≤ g ∧ w'.ownsRow w.heap.size 9 1 (.slice (some ⟨g, 0, none⟩) ss.length ss.length) ss.length (ss.map encStr) ∧ Below w.heap.size w w'

set_option maxRecDepth 100000 in
set_option maxHeartbeats 1000000 in
theorem buried_any (L : Labs) (who g : Nat) (M : Ag) (w : World) (h : AgentAt w L who g M) (hd : ∀ p ∈ M.dead, p < M.bs.length) (hb : M.bs.length ≤ 120) (hdl : M.dead.length ≤ 120) :
    Calls Tryz.prog 76 #[.pointer (some ⟨g, 0, none⟩)] w fun e w' => NewTexts w w' M.ids e := by
  obtain ⟨bq, bm, cn, tv, dv, nv, rv, ov, h⟩ := h
  obtain ⟨da, dc, rfl, _⟩ := h.dd.shape
  obtain ⟨ta, tc, rfl, _⟩ := h.tk.shape
  have c0 : w.cell? ⟨g, 0, none⟩ = some (.slice ta M.bs.length tc) := h.blk.1.cell 0
  have c2 : w.cell? ⟨g, 2, none⟩ = some (.slice da M.dead.length dc) := h.blk.1.cell 2
  have hgl := h.blk.1.lt
  obtain ⟨i0, hi, hz0, hz1, hz2⟩ := info_parts infoStr
  have hidl : M.ids.length = M.dead.length := by simp [Ag.ids]
  have HD := hide hd
  have HH := hide h
  have HL := hide hidl
  generalize hn : M.dead.length = n at *
  generalize hm : M.bs.length = m at *
  have Hn := hide hn
  have Hm := hide hm
  clear hd h hidl hn hm
  go_enter Tryz.func76, Tryz.ntmps76
  go_wp2_with (first
    | (at_make; refine wpList_make_full _ rfl _ _ 85 rfl w.heap.size 9 i0 (.string ⟨#[]⟩) 1 Tryz.underlying85 hi hz0 hz1 _ _ _ _ n rfl rfl rfl rfl (by rw [hz2]; omega) (by unfold maxLen; omega) (by simp) ?_; intro w1 hrow hg1; have hB1 : Below w.heap.size w w1 := (Below.refl _ _).grown hg1 (Nat.le_refl _) (fun j hj => by cases hj); have d2 : w1.cell? ⟨g, 2, none⟩ = some (.slice da n dc) := (hB1.cell (p := ⟨g, 2, none⟩) hgl).trans c2; have HR0 := hide hrow; have HB := hide hB1; clear hrow hg1 hB1)
    | fail)
  have hrow := HR0.out
  rw [madeStr] at hrow
  have HR : Hid (w1.ownsRow w.heap.size 9 1 (.slice (some ⟨w.heap.size, 0, none⟩) n n) n (filled (M.ids.map encStr) (encStr []) 0)) := by
    rw [filled_zero, List.length_map, HL.out]; exact hrow
  clear hrow HR0
  go_loopw [17] (fun i wr => ∃ k : Nat, k ≤ n ∧ i = .int .i64 k ∧ wr.ownsRow w.heap.size 9 1 (.slice (some ⟨w.heap.size, 0, none⟩) n n) n (filled (M.ids.map encStr) (encStr []) k) ∧ Below w.heap.size w wr) (fun i _ => n - (intOf i).toNat)
  case atStart => exact ⟨0, Nat.zero_le _, rfl, HR.out, HB.out⟩
  case round =>
    obtain ⟨k, hk, rfl, hr, hnx⟩ := hrel
    have Hr := hide hr
    have Hnx := hide hnx
    clear hr hnx d2
    by_cases hlt : k < n
    · have hltI : (k : Int) < (n : Int) := by omega
      obtain ⟨gd, rfl, hgd, _, hcd, _⟩ := (show RowAt w L (some (who, .dd)) 3 1 (.slice da n dc) n (ints M.dead) by have := HH.out.dd; rw [Hn.out] at this; exact this).head (by omega)
      obtain ⟨p, hp⟩ : ∃ p, M.dead[k]? = some p := ⟨_, List.getElem?_eq_getElem (by rw [Hn.out]; exact hlt)⟩
      have hpm : p < m := HD.out p (List.mem_of_getElem? hp)
      have hpI : (p : Int) < (m : Int) := by omega
      obtain ⟨gt, rfl, hgt, _, hct, _⟩ := (show RowAt w L (some (who, .tk)) 155 6 (.slice ta m tc) m (M.bs.flatMap Bat.cells) by have := HH.out.tk; rw [Hm.out] at this; exact this).head (by omega)
      obtain ⟨b, hb'⟩ : ∃ b, M.bs[p]? = some b := ⟨_, List.getElem?_eq_getElem (by rw [Hm.out]; exact hpm)⟩
      have e0 : wr.cell? ⟨g, 0, none⟩ = some (.slice (some ⟨gt, 0, none⟩) m tc) := by rw [Hnx.out.cell (p := ⟨g, 0, none⟩) hgl]; exact c0
      have e1 : wr.cell? ⟨gd, k, none⟩ = some (.int .i64 p) := by rw [Hnx.out.cell (p := ⟨gd, k, none⟩) hgd]; exact hcd k _ (ints_get hp)
      have e2 : wr.cell? ⟨gt, p * 6 + 2, none⟩ = some (encStr b.id) := by rw [Hnx.out.cell (p := ⟨gt, _, none⟩) hgt]; exact hct _ _ (flat_cell Bat.cells 6 Bat.cells_length hb' (by omega) rfl)
      have e3 : wr.frozen? ⟨w.heap.size, k, none⟩ = false := Hr.out.frozenAt k
      have e4 : (wr.cell? ⟨w.heap.size, k, none⟩).isSome = true := by
        rw [Hr.out.cellAt k (by omega), List.getElem?_eq_getElem (by rw [Hr.out.1]; omega)]
        rfl
      obtain ⟨u4, e4'⟩ := Option.isSome_iff_exists.1 e4
      have Hp := hide hp
      have Hb := hide hb'
      clear hcd hct hp hb' e4
      go_wp2_with fail
      go_roundw
      case rel =>
        refine ⟨k + 1, by omega, by go_num, ?_, Hnx.out.setCell (Nat.le_refl _) _⟩
        have := (Hr.out.stored k (encStr b.id)).1
        rw [filled_set _ _ k _ (by rw [List.getElem?_map]; simp [Ag.ids, Hp.out, Hb.out])] at this
        exact this
      case measure => simp [intOf]; omega
    · have e : k = n := by omega
      subst e
      go_wp2_with fail
      go_ret
      have := Hr.out
      rw [show k = (M.ids.map encStr).length by rw [List.length_map, HL.out], filled_all] at this
      unfold NewTexts
      rw [HL.out]
      exact ⟨_, rfl, Nat.le_refl _, by simpa [HL.out] using this, Hnx.out⟩

set_option maxHeartbeats 400000 in
theorem dead_any (L : Labs) (who g : Nat) (M : Ag) (w : World) (h : AgentAt w L who g M) (hd : ∀ p ∈ M.dead, p < M.bs.length) (hb : M.bs.length ≤ 120) (hdl : M.dead.length ≤ 120) :
    Calls Tryz.prog 35 #[.pointer (some ⟨g, 0, none⟩)] w fun e w' => NewTexts w w' M.ids e := by
  have H := hide (buried_any L who g M w h hd hb hdl)
  clear h hd hb hdl
  go_enter Tryz.func35, Tryz.ntmps35
  go_wp2_with fail
  refine H.out.mono ?_
  rintro e w' ⟨gs, rfl, h1, h2, h3⟩
  have H1 := hide h1
  have H2 := hide h2
  have H3 := hide h3
  clear h1 h2 h3
  go_wp2_with fail
  go_ret
  exact ⟨_, rfl, H1.out, H2.out, H3.out⟩
end Go.Proofs.YtojpjaifhjigfaaGreatDoor
