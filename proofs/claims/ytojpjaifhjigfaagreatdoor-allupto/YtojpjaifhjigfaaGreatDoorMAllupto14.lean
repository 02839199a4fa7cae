/- Steps of the proof (several texts in one): Next, SendOut. -/
import Derived.Test.YtojpjaifhjigfaaGreatDoorMAllupto13
import Derived.Test.YtojpjaifhjigfaaGreatDoorMAllupto02
import Derived.Deep.OwnRows

/- next: the batch that goes to a destination now. -/
namespace Go.Proofs.YtojpjaifhjigfaaGreatDoor
open Go.RowKit Go.Maps

/-- A row of numbers that is filled from its beginning on. -/
def part0 (l : List Int) (k : Nat) : List Int := l.take k ++ List.replicate (l.length - k) 0
theorem part0_zero (l : List Int) : part0 l 0 = List.replicate l.length 0 := by simp [part0]
theorem part0_all (l : List Int) : part0 l l.length = l := by simp [part0]
theorem part0_length (l : List Int) (k : Nat) (h : k ≤ l.length) : (part0 l k).length = l.length := by simp [part0]; omega
theorem part0_set (l : List Int) (k : Nat) (v : Int) (h : l[k]? = some v) : (part0 l k).set k v = part0 l (k + 1) := by
  have hk : k < l.length := (List.getElem?_eq_some_iff.1 h).1
  have hv : l[k] = v := (List.getElem?_eq_some_iff.1 h).2
  unfold part0
  rw [List.take_succ_eq_append_getElem hk, hv]
  obtain ⟨m, hm⟩ : ∃ m, l.length - k = m + 1 := ⟨l.length - k - 1, by omega⟩
  rw [hm, List.replicate_succ, List.set_append_right _ _ (by simp; omega), show l.length - (k + 1) = m by omega]
  simp [Nat.min_eq_left (Nat.le_of_lt hk)]
theorem made_part0 (l : List Int) (n : Nat) (h : l.length = n) : madeCells #[Value.int .i64 0] n = (intsI (part0 l 0)).toArray := by
  apply Array.ext'
  rw [toList_madeCells_one, part0_zero, h]
  simp [intsI]
theorem Blk.setInt {w : World} {g k : Nat} {l : List Int} {v : Int} (h : Blk w g (intsI l).toArray 3) : Blk (w.setCell ⟨g, k, none⟩ (.int .i64 v)) g (intsI (l.set k v)).toArray 3 := by
  have := h.set k (.int .i64 v)
  have e : (intsI l).toArray.setIfInBounds k (.int .i64 v) = (intsI (l.set k v)).toArray := by
    apply Array.ext'
    simp [intsI, List.map_set]
  rw [e] at this
  exact this

/-- What next and sendOut want of an agent. -/
structure SendOk (M : Ag) : Prop where
  c : M.c.Ok
  nl : M.ns.length ≤ 8
  sl : ∀ x ∈ M.ns, x.length ≤ 16
  hs : ∀ x ∈ M.ns, Maps.has M.D (.string x) = true
  q : ∀ x ∈ M.ns, 64 ≤ qOf M.D x ∧ qOf M.D x ≤ 1000
  rl : M.rt.length = M.bs.length
  bl : ∀ b ∈ M.bs, b.body.length ≤ 63
  b120 : M.bs.length ≤ 120
  n0 : 0 ≤ M.now
  n1 : M.now ≤ 1000000000000000000
  o4 : M.os.length ≤ 4

theorem SendOk.sizes_le {M : Ag} (h : SendOk M) (d i : Nat) : (M.sizes d).getD i 0 ≤ 64 := by
  unfold Ag.sizes
  rw [List.getD_eq_getElem?_getD, List.getElem?_map]
  cases M.ns[i]? with
  | none => simp
  | some x =>
    simp only [Option.map_some, Option.getD_some]
    unfold Ag.size
    split
    · omega
    · split
      · omega
      · rename_i p ps _ _
        cases hb : M.bs[p]? with
        | none => simp
        | some b => have := h.bl b (List.mem_of_getElem? hb); simp; omega
theorem SendOk.quanta_bd {M : Ag} (h : SendOk M) : ∀ i, i < M.ns.length → 64 ≤ M.quanta.getD i 0 ∧ M.quanta.getD i 0 ≤ 1000 := fun i hi => by
  unfold Ag.quanta
  rw [List.getD_eq_getElem?_getD, List.getElem?_map, List.getElem?_eq_getElem hi]
  exact h.q _ (List.getElem_mem hi)

theorem qOf_at {D : DataW Unit} {x : List UInt8} {c : Int} (h : At D x c) : qOf D x = c := by unfold qOf; rw [h]

/-- The batch that is named, at a destination whose turn has gone on. -/
def Ag.named (M : Ag) (d : Nat) (o : Out) : Nat := (pend M.bs d (M.ns.getD (o.picked (M.sizes d) M.quanta).turn [])).headD 0

theorem picked_turn (o : Out) (sizes : List Nat) (quanta : List Int) : (o.picked sizes quanta).turn = (turnsR sizes quanta o.cr.length (o.turn, o.cr)).1 := rfl
theorem picked_head {M : Ag} {d : Nat} {o : Out} (h : SendOk M) (hr : Rot M.ns.length (o.turn, o.cr)) (hall : (M.sizes d).all (· == 0) = false) :
    ∃ x p ps, M.ns[(o.picked (M.sizes d) M.quanta).turn]? = some x ∧ pend M.bs d x = p :: ps ∧ M.named d o = p := by
  have hlen : o.cr.length = M.ns.length := hr.len
  have hal : allowsR (M.sizes d) (turnsR (M.sizes d) M.quanta M.ns.length (o.turn, o.cr)).1 (turnsR (M.sizes d) M.quanta M.ns.length (o.turn, o.cr)).2 = true := by
    obtain ⟨y, hy, hy0⟩ := List.all_eq_false.1 hall
    obtain ⟨i, hi, rfl⟩ := List.getElem_of_mem hy
    refine turnsR_found (h.sizes_le d) h.quanta_bd hr (i := i) (by simpa [Ag.sizes] using hi) ?_
    rw [List.getD_eq_getElem?_getD, List.getElem?_eq_getElem hi]
    simp at hy0 ⊢
    omega
  have hrt := turnsR_rot (h.sizes_le d) h.quanta_bd M.ns.length (o.turn, o.cr) hr
  have ht : (o.picked (M.sizes d) M.quanta).turn = (turnsR (M.sizes d) M.quanta M.ns.length (o.turn, o.cr)).1 := by rw [picked_turn, hlen]
  have hlt : (o.picked (M.sizes d) M.quanta).turn < M.ns.length := by rw [ht]; exact hrt.turn
  have hpos : 0 < (M.sizes d).getD (o.picked (M.sizes d) M.quanta).turn 0 := by
    rw [ht]
    unfold allowsR at hal
    simp only [Bool.and_eq_true, decide_eq_true_eq] at hal
    exact hal.1
  obtain ⟨x, hx⟩ : ∃ x, M.ns[(o.picked (M.sizes d) M.quanta).turn]? = some x := ⟨_, List.getElem?_eq_getElem hlt⟩
  have hsz' : ∀ t : Nat, M.ns[t]? = some x → 0 < (M.sizes d).getD t 0 → 0 < M.size d x := fun t h1 h2 => by
    unfold Ag.sizes at h2
    rw [List.getD_eq_getElem?_getD, List.getElem?_map, h1] at h2
    simpa using h2
  have hsz := hsz' _ hx hpos
  have hnm : M.named d o = (pend M.bs d x).headD 0 := by
    unfold Ag.named
    rw [List.getD_eq_getElem?_getD, hx]
    rfl
  cases hp : pend M.bs d x with
  | nil => unfold Ag.size at hsz; rw [hp] at hsz; simp at hsz
  | cons p ps => exact ⟨x, p, ps, hx, hp, by rw [hnm, hp]; rfl⟩

set_option maxRecDepth 100000 in
set_option maxHeartbeats 4000000 in
theorem next_core (L : Labs) (who g d : Nat) (M : Ag) (o : Out) (w : World) (hLn : ∀ k, w.heap.size ≤ k → L k = none) (hA : AgentAt w L who g M) (h : SendOk M) (ho : M.os[d]? = some o) (hr : Rot M.ns.length (o.turn, o.cr)) (hd4 : d < 4) :
    Calls Tryz.prog 113 #[.pointer (some ⟨g, 0, none⟩), .int .i64 d] w fun e w' =>
      ((M.sizes d).all (· == 0) = true → e = .returned (.int .i64 (-1)) ∧ AgentAt w' L who g M ∧ Step (ofP who) L w L w' ∧ w'.cell? ⟨g, 18, none⟩ = w.cell? ⟨g, 18, none⟩) ∧
      ((M.sizes d).all (· == 0) = false → e = .returned (.int .i64 (M.named d o)) ∧ AgentAt w' L who g { M with os := M.os.set d (o.picked (M.sizes d) M.quanta) } ∧ Step (ofP who) L w L w' ∧ w'.cell? ⟨g, 18, none⟩ = w.cell? ⟨g, 18, none⟩) := by
  have HA := hide hA
  have H := hide h
  have Hrot := hide hr
  have hnl := h.nl
  obtain ⟨bq, bm, cn, tv, dv, nv, rv, ov, hAt⟩ := hA
  obtain ⟨na, nk, rfl, _⟩ := hAt.nm.shape
  have hgl := hAt.blk.1.lt
  have c15 : w.cell? ⟨g, 15, none⟩ = some (.slice na M.ns.length nk) := hAt.blk.1.cell 15
  have HAt := hide hAt
  have HLn := hide hLn
  have Ho := hide ho
  have hmk := fun w => run_make_row' (P := Tryz.prog) 51 3 (.int .i64 0) 8 Tryz.underlying51 infoIntE rfl .i64 .i64 M.ns.length (by omega) (by omega) w
  have hszl : (sizesI (M.sizes d)).length = M.ns.length := by simp [sizesI, Ag.sizes]
  have hqul : M.quanta.length = M.ns.length := by simp [Ag.quanta]
  have HM1 := hide (made_part0 (sizesI (M.sizes d)) M.ns.length hszl)
  have HM2 := hide (made_part0 M.quanta M.ns.length hqul)
  generalize hn : M.ns.length = n at *
  have Hn := hide hn
  have Hszl := hide hszl
  have Hqul := hide hqul
  clear hAt h ho hr hLn hn hszl hqul
  go_enter Tryz.func113, Tryz.ntmps113
  go_wp2_with fail
  generalize hV : World.alloc (World.alloc w _) _ = V
  have hBV : Below w.heap.size w V := by rw [← hV]; exact ((Below.refl _ _).alloc (Nat.le_refl _) _).alloc (by simp) _
  have hS0 : Blk V w.heap.size (intsI (part0 (sizesI (M.sizes d)) 0)).toArray 3 := by rw [← hV, ← HM1.out]; exact (Blk.new w _ _).alloc _
  have hQ0 : Blk V (w.heap.size + 1) (intsI (part0 M.quanta 0)).toArray 3 := by rw [← hV, ← HM2.out]; exact Blk.made (by simp) _ _
  have HAtS : Hid (Blk V w.heap.size (intsI (part0 (sizesI (M.sizes d)) 0)).toArray 3 ∧ Blk V (w.heap.size + 1) (intsI (part0 M.quanta 0)).toArray 3 ∧ Below w.heap.size w V) := ⟨hS0, hQ0, hBV⟩
  clear hV hBV hS0 hQ0 hmk
  go_loopw [27] (fun i wr => ∃ k : Nat, k ≤ n ∧ i = .int .i64 k ∧ Blk wr w.heap.size (intsI (part0 (sizesI (M.sizes d)) k)).toArray 3 ∧ Blk wr (w.heap.size + 1) (intsI (part0 M.quanta k)).toArray 3 ∧ Below w.heap.size w wr) (fun i _ => n - (intOf i).toNat)
  case atStart => exact ⟨0, Nat.zero_le _, rfl, HAtS.out⟩
  case round =>
    obtain ⟨k, hk, rfl, hSz, hQu, hnx⟩ := hrel
    have HSz := hide hSz
    have HQu := hide hQu
    have Hnx := hide hnx
    clear hSz hQu hnx
    by_cases hlt : k < n
    · have hltI : (k : Int) < (n : Int) := by omega
      obtain ⟨x, hx⟩ : ∃ x, M.ns[k]? = some x := ⟨_, List.getElem?_eq_getElem (by rw [Hn.out]; exact hlt)⟩
      have hxm := List.mem_of_getElem? hx
      obtain ⟨gn, rfl, hgn, _, hcn, _⟩ := (show RowAt w L (some (who, .nm)) 9 1 (.slice na n nk) n (M.ns.map encStr) by have := HAt.out.nm; rw [Hn.out] at this; exact this).head (by omega)
      have en : wr.cell? ⟨gn, k, none⟩ = some (encStr x) := (Hnx.out.cell (p := ⟨gn, k, none⟩) hgn).trans (hcn k _ (strs_get hx))
      have HSG := hide (fun W (hW : Below w.heap.size w W) => sizeToGo_any L who g M d x W (HA.out.keep (Step.of_below (p := fun _ => False) hW) (fun _ h => h)) (laneOk_small (by omega) (by omega) (by have := H.out.sl x hxm; unfold maxLen; omega)) H.out.rl H.out.bl)
      obtain ⟨q, hAtq, hlook⟩ := look_at HAt.out.cm.1 (H.out.hs x hxm)
      have hqe := qOf_at hAtq
      have hs1 : (sizesI (M.sizes d))[k]? = some ((M.size d x : Nat) : Int) := by simp [sizesI, Ag.sizes, hx]
      have hq1 : M.quanta[k]? = some q := by simp [Ag.quanta, hx, hqe]
      have HSet1 := hide (part0_set _ k _ hs1)
      have HSet2 := hide (part0_set _ k _ hq1)
      have Hlook := hide hlook
      have hcml := HAt.out.cm.1.lt
      clear hcn hlook hs1 hq1 hqe hAtq hx hxm
      generalize hz : M.size d x = z at *
      clear hz
      go_wp2_with fail
      refine (HSG.out _ Hnx.out).mono ?_
      rintro e w1 ⟨rfl, hb1⟩
      have hB1 : Below w.heap.size w w1 := Hnx.out.trans (hb1.mono Hnx.out.size)
      have hSz1 := HSz.out.below hb1 HSz.out.lt
      have hQu1 := HQu.out.below hb1 HQu.out.lt
      have hkl : k < (intsI (part0 (sizesI (M.sizes d)) k)).toArray.size := by simp [intsI, part0_length _ k (show k ≤ (sizesI (M.sizes d)).length by rw [Hszl.out]; omega), Hszl.out]; omega
      have hkq : k < (intsI (part0 M.quanta k)).toArray.size := by simp [intsI, part0_length _ k (show k ≤ M.quanta.length by rw [Hqul.out]; omega), Hqul.out]; omega
      obtain ⟨u1, s1⟩ : ∃ u, w1.cell? ⟨w.heap.size, k, none⟩ = some u := ⟨_, (hSz1.cell k).trans (Array.getElem?_eq_getElem hkl)⟩
      obtain ⟨u2, q1⟩ : ∃ u, w1.cell? ⟨w.heap.size + 1, k, none⟩ = some u := ⟨_, (hQu1.cell k).trans (Array.getElem?_eq_getElem hkq)⟩
      have f1 := hSz1.frozen k
      have f2 := hQu1.frozen k
      have d5 : w1.cell? ⟨g, 5, none⟩ = some (.map (some bm)) := (hB1.cell (p := ⟨g, 5, none⟩) hgl).trans (HAt.out.blk.1.cell 5)
      have hlk := Hlook.out (w1.setCell ⟨w.heap.size, k, none⟩ (.int .i64 z)) cn (om_below HAt.out.cm.1 (hB1.setCell (p := ⟨w.heap.size, k, none⟩) (Nat.le_refl _) (.int .i64 z)) hcml)
      have hl1 := hSz1.lt
      have hl2 := hQu1.lt
      have HSz1 := hide hSz1
      have HQu1 := hide hQu1
      have HB1 := hide hB1
      clear hb1 hB1 hSz1 hQu1 hkl hkq
      go_wp2_with fail
      go_roundw
      case rel =>
        refine ⟨k + 1, by omega, by go_num, ?_, ?_, ?_⟩
        · rw [← HSet1.out]
          exact HSz1.out.setInt.other _ _ (by simp)
        · rw [← HSet2.out]
          exact (HQu1.out.other _ _ (by simp)).setInt
        · exact (HB1.out.setCell (Nat.le_refl _) _).setCell (by show w.heap.size ≤ w.heap.size + 1; omega) _
      case measure => simp [intOf]; omega
    · have hkn : k = n := by omega
      subst hkn
      have hSzN : NumsAt wr L who w.heap.size (sizesI (M.sizes d)) := by
        have e := part0_all (sizesI (M.sizes d))
        rw [Hszl.out] at e
        refine ⟨by have := HSz.out; rw [e] at this; exact this, ?_⟩
        rw [HLn.out _ (Nat.le_refl _)]
        rintro ⟨q, hq⟩
        cases hq
      have hQuN : NumsAt wr L who (w.heap.size + 1) M.quanta := by
        have e := part0_all M.quanta
        rw [Hqul.out] at e
        refine ⟨by have := HQu.out; rw [e] at this; exact this, ?_⟩
        rw [HLn.out _ (by omega)]
        rintro ⟨q, hq⟩
        cases hq
      have hAw := HAt.out.keep (Step.of_below (p := fun _ => False) Hnx.out) (fun _ h => h)
      obtain ⟨go, ok, hov, hF⟩ := hAw.focus Ho.out
      subst hov
      have hdl : d < M.os.length := (List.getElem?_eq_some_iff.1 Ho.out).1
      have hdI : (d : Int) < (M.os.length : Int) := by omega
      have d18 : wr.cell? ⟨g, 18, none⟩ = some (.slice (some ⟨go, 0, none⟩) M.os.length ok) := hAw.blk.1.cell 18
      have hsl : (M.sizes d).length = k := by simp [Ag.sizes, Hn.out]
      have HAw := hide hAw
      cases hall : (M.sizes d).all (· == 0)
      · have HPk := hide (pick_some L who M.c.th go ok d w.heap.size (w.heap.size + 1) k M.os o (M.sizes d) M.quanta wr hF Hrot.out hnl (H.out.sizes_le d) hSzN hsl hQuN Hqul.out (by rw [← Hn.out]; exact H.out.quanta_bd) hall)
        obtain ⟨x, p, ps, hx, hp, hnm⟩ := picked_head H.out (by rw [Hn.out]; exact Hrot.out) hall
        have Hall := hide hall
        generalize hop : o.picked (M.sizes d) M.quanta = o' at *
        have Hop := hide hop
        have hxm := List.mem_of_getElem? hx
        have htl : o'.turn < k := by rw [← Hn.out]; exact (List.getElem?_eq_some_iff.1 hx).1
        have htI : (o'.turn : Int) < (k : Int) := by omega
        have htn : ((o'.turn : Int) == -1) = false := beq_eq_false_iff_ne.2 (by omega)
        obtain ⟨gn, hna, hgn, _, hcn, _⟩ := (show RowAt w L (some (who, .nm)) 9 1 (.slice na k nk) k (M.ns.map encStr) by have := HAt.out.nm; rw [Hn.out] at this; exact this).head (by omega)
        subst hna
        have HCn := hide (hcn o'.turn _ (strs_get hx))
        have Hnm := hide hnm
        have Hp := hide hp
        have hlo : LaneOk d x := laneOk_small (by omega) (by omega) (by have := H.out.sl x hxm; unfold maxLen; omega)
        clear hF hSzN hQuN hAw hx hxm hcn hnm hp hop hall
        go_wp2_with fail
        refine HPk.out.mono ?_
        rintro e w2 ⟨rfl, hF2, hS2⟩
        have hS2p : Step (ofP who) L wr L w2 := hS2.mono (fun l h => by rcases h with rfl | rfl <;> exact ⟨_, rfl⟩)
        have hA2 := HAw.out.outs hS2 (fun q h => by rcases h with h | h <;> simp at h; exact Or.inl h; exact Or.inr ⟨_, h⟩) hF2.2
        have d15 : w2.cell? ⟨g, 15, none⟩ = some (.slice (some ⟨gn, 0, none⟩) k nk) := by have := hA2.blk.1.cell 15; rw [show _ = _ from this]; simp [agCells]
        have hnmw : w.cell? ⟨gn, o'.turn, none⟩ = some (encStr x) := HCn.out
        have dn : w2.cell? ⟨gn, o'.turn, none⟩ = some (encStr x) := by
          have hl : L gn = some (who, .nm) := (show RowAt w L (some (who, .nm)) 9 1 (.slice (some ⟨gn, 0, none⟩) k nk) k (M.ns.map encStr) by have := HAt.out.nm; rw [Hn.out] at this; exact this).2 gn (by simp [Value.ownBlock])
          have hwl : gn < wr.heap.size := Nat.lt_of_lt_of_le hgn Hnx.out.size
          have e1 : w2.heap[gn]? = wr.heap[gn]? := hS2.block gn hwl (by rw [hl]; simp [rotP])
          have e2 : wr.heap[gn]? = w.heap[gn]? := Hnx.out.block gn hgn
          rw [← hnmw]
          simp only [World.cell?, e1, e2]
        have HHd := hide (fun W (hW : Below w2.heap.size w2 W) => head_any L who g { M with os := M.os.set d o' } d x W (AgentAt.keep ⟨bq, bm, cn, tv, dv, _, rv, _, hA2⟩ (Step.of_below (p := fun _ => False) hW) (fun _ h => h)) hlo)
        have hpe : pend (Ag.bs { M with os := M.os.set d o' }) d x = p :: ps := Hp.out
        rw [hpe] at HHd
        have HA2 : Hid (AgentAt w2 L who g { M with os := M.os.set d o' }) := ⟨bq, bm, cn, tv, dv, _, rv, _, hA2⟩
        have HS2 : Hid (Step (ofP who) L w L w2) := (Step.of_below Hnx.out).trans hS2p
        have E18 : Hid (w2.cell? ⟨g, 18, none⟩ = w.cell? ⟨g, 18, none⟩) := (hA2.blk.1.cell 18).trans (HAt.out.blk.1.cell 18).symm
        have hgl2 := hA2.blk.1.lt
        clear hF2 hS2 hS2p hA2 hnmw hpe
        go_wp2_with fail
        go_region_with ((go_at_call 143; refine (HHd.out _ (by first | exact Below.refl _ _ | exact (Below.refl _ _).drew)).mono ?_; rintro e w3 ⟨rfl, hb3⟩))
        all_goals
          go_wp2_with fail
          go_ret
          have hb3' : Below w2.heap.size w2 w3 := ((Below.refl w2.heap.size w2).drew).trans hb3
          rw [Hop.out]
          refine ⟨fun h => (by rw [Hall.out] at h; cases h), fun _ => ⟨?_, HA2.out.keep (Step.of_below (p := fun _ => False) hb3') (fun _ h => h), HS2.out.trans (Step.of_below hb3'), (hb3'.cell (p := ⟨g, 18, none⟩) hgl2).trans E18.out⟩⟩
          rw [Hnm.out]
          rfl
      · have HPk := hide (pick_none L who go d w.heap.size (w.heap.size + 1) k (M.sizes d) wr hSzN hsl hnl hall)
        have Hall := hide hall
        clear hF hSzN hQuN hAw hall
        go_wp2_with fail
        refine HPk.out.mono ?_
        rintro e w2 ⟨rfl, hw2⟩
        subst hw2
        go_wp2_with fail
        go_ret
        exact ⟨fun _ => ⟨rfl, ⟨bq, bm, cn, tv, dv, _, rv, _, HAw.out⟩, Step.of_below Hnx.out, Hnx.out.cell (p := ⟨g, 18, none⟩) hgl⟩, fun h => (by rw [Hall.out] at h; cases h)⟩
end Go.Proofs.YtojpjaifhjigfaaGreatDoor

/- sendOut: to each destination one at most. -/
namespace Go.Proofs.YtojpjaifhjigfaaGreatDoor
open Go.RowKit Go.Maps

theorem infoSend3 : (Tryz.prog.info? 68).map (fun i => (i.zero, i.size, i.bytes)) = some (some (.agg #[.int .i64 0, .int .i64 0, .string ⟨#[]⟩, .string ⟨#[]⟩]), 4, 48) := by kernel_rfl
theorem infoPBatchS : (Tryz.prog.info? 155).map (·.size) = some 6 := by kernel_rfl
/-- What one destination wants. -/
structure DestOk (M : Ag) (o : Out) : Prop where
  rot : Rot M.ns.length (o.turn, o.cr)
  s0 : 0 ≤ o.sends
  s1 : o.sends ≤ 1000000000000000000

/-- Only the first k destinations have turned. -/
structure SentUp (M M' : Ag) (k : Nat) : Prop where
  eq : { M' with os := M.os } = M
  len : M'.os.length = M.os.length
  os : ∀ d, k ≤ d → M'.os[d]? = M.os[d]?
theorem SentUp.refl (M : Ag) : SentUp M M 0 := ⟨rfl, rfl, fun _ _ => rfl⟩
theorem sentTo_up (M : Ag) (d : Nat) : SentUp M (M.sentTo d).1 (d + 1) := by
  unfold Ag.sentTo
  cases ho : M.os[d]? with
  | none => exact ⟨rfl, rfl, fun _ _ => rfl⟩
  | some o =>
    simp only
    split
    · exact ⟨rfl, rfl, fun _ _ => rfl⟩
    · exact ⟨rfl, by simp, fun i hi => by simp only; rw [List.getElem?_set_ne (by omega)]⟩
theorem SentUp.trans {M M1 M2 : Ag} {k j : Nat} (h : SentUp M M1 k) (g : SentUp M1 M2 j) (hkj : k ≤ j) : SentUp M M2 j := by
  refine ⟨?_, g.len.trans h.len, fun d hd => (g.os d hd).trans (h.os d (by omega))⟩
  have e1 := h.eq
  have e2 := g.eq
  rw [← e2] at e1
  exact e1
theorem sentOut_up (M : Ag) : ∀ k, SentUp M (M.sentOut k).1 k
  | 0 => SentUp.refl M
  | k + 1 => (sentOut_up M k).trans (sentTo_up _ k) (by omega)
theorem SentUp.same {M M' : Ag} {k : Nat} (h : SentUp M M' k) : M'.c = M.c ∧ M'.D = M.D ∧ M'.ns = M.ns ∧ M'.bs = M.bs ∧ M'.dead = M.dead ∧ M'.log = M.log ∧ M'.now = M.now ∧ M'.rt = M.rt := by
  rw [← h.eq]
  exact ⟨rfl, rfl, rfl, rfl, rfl, rfl, rfl, rfl⟩
theorem SendOk.up {M M' : Ag} {k : Nat} (h : SendOk M) (u : SentUp M M' k) : SendOk M' := by
  obtain ⟨e1, e2, e3, e4, e5, e6, e7, e8⟩ := u.same
  exact ⟨by rw [e1]; exact h.c, by rw [e3]; exact h.nl, by rw [e3]; exact h.sl, by rw [e2, e3]; exact h.hs, by rw [e2, e3]; exact h.q, by rw [e4, e8]; exact h.rl, by rw [e4]; exact h.bl, by rw [e4]; exact h.b120, by rw [e7]; exact h.n0, by rw [e7]; exact h.n1, by rw [u.len]; exact h.o4⟩
theorem sentOut_len (M : Ag) : ∀ k, (M.sentOut k).2.length ≤ k
  | 0 => Nat.le_refl _
  | k + 1 => by
    have ih := sentOut_len M k
    have h1 : ((M.sentOut k).1.sentTo k).2.length ≤ 1 := by
      unfold Ag.sentTo
      cases (M.sentOut k).1.os[k]? with
      | none => simp
      | some o => simp only; split <;> simp
    simp only [Ag.sentOut, List.length_append]
    omega

/-- sentTo, in the words of next. -/
theorem sentTo_eq {M : Ag} {d : Nat} {o : Out} (ho : M.os[d]? = some o) (hw : o.way = -1) (hop : ¬ (o.trip = true ∧ M.now < o.unt)) (hall : (M.sizes d).all (· == 0) = false) :
    M.sentTo d = ({ M with os := M.os.set d { o.picked (M.sizes d) M.quanta with sends := o.sends + 1, way := M.named d o, began := M.now } }, [⟨d, o.sends + 1, (M.bs[M.named d o]?.map (·.id)).getD [], (M.bs[M.named d o]?.map (·.body)).getD []⟩]) := by
  unfold Ag.sentTo
  rw [ho]
  simp only
  rw [if_neg (fun h => by
    rcases h with h | h | h
    · exact h hw
    · exact hop h
    · rw [hall] at h; cases h)]
  rfl
theorem sentTo_not {M : Ag} {d : Nat} {o : Out} (ho : M.os[d]? = some o) (h : o.way ≠ -1 ∨ (o.trip = true ∧ M.now < o.unt) ∨ (M.sizes d).all (· == 0) = true) : M.sentTo d = (M, []) := by
  unfold Ag.sentTo
  rw [ho]
  simp only
  rw [if_pos h]

/-- What sendOut leaves. -/
def SentAll (w : World) (L : Labs) (l : Lab) (who g : Nat) (x : Ag × List Sd) (e : Ending) (w' : World) : Prop := ∃ v L', e = .returned v ∧ RowAt w' L' l 68 4 v x.2.length (x.2.flatMap Sd.cells) ∧ AgentAt w' L' who g x.1 ∧ Step (ofP who) L w L' w'

theorem next_any (L : Labs) (who g d : Nat) (M : Ag) (o : Out) (w : World) (hA : AgentAt w L who g M) (h : SendOk M) (ho : M.os[d]? = some o) (hr : Rot M.ns.length (o.turn, o.cr)) (hd4 : d < 4) :
    Calls Tryz.prog 113 #[.pointer (some ⟨g, 0, none⟩), .int .i64 d] w fun e w' =>
      ((M.sizes d).all (· == 0) = true → e = .returned (.int .i64 (-1)) ∧ Turned w L who g M w' ∧ w'.cell? ⟨g, 18, none⟩ = w.cell? ⟨g, 18, none⟩) ∧
      ((M.sizes d).all (· == 0) = false → e = .returned (.int .i64 (M.named d o)) ∧ Turned w L who g { M with os := M.os.set d (o.picked (M.sizes d) M.quanta) } w' ∧ w'.cell? ⟨g, 18, none⟩ = w.cell? ⟨g, 18, none⟩) := by
  refine (next_core (clip L w.heap.size) who g d M o w (fun k hk => clip_none L hk) (hA.keep (Step.clipped (p := fun _ => False) L w) (fun _ h => h)) h ho hr hd4).mono ?_
  rintro e w' ⟨h1, h2⟩
  refine ⟨fun ha => ?_, fun ha => ?_⟩
  · obtain ⟨e1, e2, e3, e4⟩ := h1 ha
    exact ⟨e1, ⟨_, e2, (Step.clipped L w).trans e3⟩, e4⟩
  · obtain ⟨e1, e2, e3, e4⟩ := h2 ha
    exact ⟨e1, ⟨_, e2, (Step.clipped L w).trans e3⟩, e4⟩

set_option maxRecDepth 100000 in
set_option maxHeartbeats 4000000 in
theorem sendOut_any (L : Labs) (l : Lab) (who g : Nat) (M : Ag) (w : World) (hl : ¬ ofP who l) (hfr : ∀ k, k < w.heap.size → L k ≠ l) (hA : AgentAt w L who g M) (h : SendOk M) (hd : ∀ (d : Nat) (o : Out), M.os[d]? = some o → DestOk M o) :
    Calls Tryz.prog 70 #[.pointer (some ⟨g, 0, none⟩)] w fun e w' => SentAll w L l who g (M.sentOut M.os.length) e w' := by
  have ho4 := h.o4
  have hn0 := h.n0
  have hn1 := h.n1
  have HU := hide (sentOut_up M)
  have HL := hide (sentOut_len M)
  have H := hide h
  have HD := hide hd
  have HA := hide hA
  have Hfr := hide hfr
  have c18 : ∃ oa ok, w.cell? ⟨g, 18, none⟩ = some (.slice oa M.os.length ok) := by
    obtain ⟨bq, bm, cn, tv, dv, nv, rv, ov, q⟩ := hA
    obtain ⟨fs, h1, h2, h3⟩ := q.ol
    obtain ⟨oa, ok, rfl, _⟩ := h2.shape
    exact ⟨oa, ok, q.blk.1.cell 18⟩
  obtain ⟨oa, ok, c18⟩ := c18
  obtain ⟨i0, hi, hz0, hz1, hz2⟩ := info_parts infoSend3
  generalize hn : M.os.length = n at *
  have Hn := hide hn
  clear h hA hfr hn hd
  go_enter Tryz.func70, Tryz.ntmps70
  go_wp2_with fail
  go_loopw [3, 13] (fun t i wr => ∃ (k : Nat) (L1 : Labs) (ea : Option Addr) (m ek : Nat), k ≤ n ∧ i = .int .i64 k ∧ t = .slice ea m ek ∧ m = (M.sentOut k).2.length ∧ RowAt wr L1 l 68 4 (.slice ea m ek) m ((M.sentOut k).2.flatMap Sd.cells) ∧ AgentAt wr L1 who g (M.sentOut k).1 ∧ Step (fun x => ofP who x ∨ x = l) L w L1 wr) (fun _ i _ => n - (intOf i).toNat)
  case atStart => exact ⟨0, L, none, 0, 0, Nat.zero_le _, rfl, rfl, rfl, RowAt.nil _ _ _ _ _, HA.out, Step.refl _ _ _⟩
  case round =>
    obtain ⟨k, L1, ea, m, ek, hk, rfl, rfl, hm, hrow, hA1, hS1⟩ := hrel
    have Hm := hide hm
    have Hrow := hide hrow
    have HA1 := hide hA1
    have HS1 := hide hS1
    have hm4 : m ≤ 4 := by rw [hm]; have := HL.out k; omega
    clear hm hrow hA1 hS1
    by_cases hlt : k < n
    · have hltI : (k : Int) < (n : Int) := by omega
      obtain ⟨o, ho⟩ : ∃ o, M.os[k]? = some o := ⟨_, List.getElem?_eq_getElem (by rw [Hn.out]; exact hlt)⟩
      have hu := HU.out k
      obtain ⟨z1, z2, z3, z4, z5, z6, z7, z8⟩ := hu.same
      have hok' : (M.sentOut k).1.os[k]? = some o := (hu.os k (Nat.le_refl _)).trans ho
      have hdo := HD.out k o ho
      have hso : SendOk (M.sentOut k).1 := H.out.up hu
      have hrot : Rot (M.sentOut k).1.ns.length (o.turn, o.cr) := by rw [z3]; exact hdo.rot
      have Hs0 := hdo.s0
      have Hs1 := hdo.s1
      have HStep : Hid (M.sentOut (k + 1) = (((M.sentOut k).1.sentTo k).1, (M.sentOut k).2 ++ ((M.sentOut k).1.sentTo k).2)) := rfl
      have hlen1 : (M.sentOut k).1.os.length = n := hu.len.trans Hn.out
      generalize hM1 : (M.sentOut k).1 = M1 at *
      obtain ⟨bq, bm, cn, tv, dv, nv, rv, ov, hAt⟩ := HA1.out
      obtain ⟨go, gk, rfl, hF⟩ := hAt.focus hok'
      rw [hlen1] at hAt
      obtain ⟨g2, ca, ck, hC⟩ := hF.cells
      have d18 : wr.cell? ⟨g, 18, none⟩ = some (.slice (some ⟨go, 0, none⟩) n gk) := hAt.blk.1.cell 18
      have d16 : wr.cell? ⟨g, 16, none⟩ = some (.int .i64 M1.now) := hAt.blk.1.cell 16
      have E3 := hide hC.c3
      have E4 := hide hC.c4
      have E8 := hide hC.c8
      have HBusy := hide (fun w1 h1 => isBusy_any go (k * 10) o.way w1 h1)
      have HOpen := hide (fun w1 h3 h4 => isOpen_any go (k * 10) o.trip o.unt M1.now w1 h3 h4)
      have HNext := hide (fun W hW => next_any L1 who g k M1 o W hW hso hok' hrot (by omega))
      have Hok' := hide hok'
      have HM1 := hide hM1
      have Hso := hide hso
      have Hrot := hide hrot
      clear hAt hF hC ho hu hok' hdo hso hrot hM1 z1 z2 z3 z4 z5 z6 z7 z8
      by_cases hw : o.way = -1
      · have hwb : (o.way != -1) = false := by simp [hw]
        rw [hwb] at HBusy
        have Hw := hide hw
        clear hw hwb
        cases hop : (o.trip && decide (M1.now < o.unt))
        · rw [hop] at HOpen
          have Hop : Hid (¬ (o.trip = true ∧ M1.now < o.unt)) := fun h => by rw [h.1] at hop; simp at hop; omega
          clear hop
          go_wp2_with fail
          go_quiet (first | (go_at_call 111; exact Calls.quiet_of_same (HBusy.out _ (by exact E8.out))) | (go_at_call 112; exact Calls.quiet_of ((HOpen.out _ (by exact E3.out) (by exact E4.out)).mono (fun e w' h => h))))
          go_wp2_with fail
          refine (HNext.out _ (HA1.out.keep (Step.drewN (p := fun _ => False) L1 wr _) (fun _ h => h))).mono ?_
          rintro e w2 ⟨hx1, hx2⟩
          cases hall : (M1.sizes k).all (· == 0)
          · obtain ⟨rfl, ⟨L2, hA2, hS2⟩, h18⟩ := hx2 hall
            obtain ⟨x, p, ps, hx, hpd, hnm⟩ := picked_head Hso.out Hrot.out hall
            obtain ⟨b, hb⟩ : ∃ b, M1.bs[p]? = some b := by
              obtain ⟨b, hb, _⟩ := mem_pend.1 (show p ∈ pend M1.bs k x by rw [hpd]; simp)
              exact ⟨b, hb⟩
            have HTo := hide (sentTo_eq Hok'.out Hw.out Hop.out hall)
            rw [hnm] at HTo
            rw [hnm]
            simp only [hb, Option.map_some, Option.getD_some] at HTo
            generalize hop' : o.picked (M1.sizes k) M1.quanta = o' at *
            have hs' : o'.sends = o.sends := by rw [← hop']; rfl
            have hkl : k < M1.os.length := (List.getElem?_eq_some_iff.1 Hok'.out).1
            have ho2 : (M1.os.set k o')[k]? = some o' := by rw [List.getElem?_set_self hkl]
            obtain ⟨bq2, bm2, cn2, tv2, dv2, nv2, rv2, ov2, hAt2⟩ := hA2
            obtain ⟨go2, gk2, hov2, hF2⟩ := AgAt.focus (M := { M1 with os := M1.os.set k o' }) hAt2 ho2
            subst hov2
            have hc18 : w2.cell? ⟨g, 18, none⟩ = some (.slice (some ⟨go2, 0, none⟩) (M1.os.set k o').length gk2) := hAt2.blk.1.cell 18
            have hc18' : w2.cell? ⟨g, 18, none⟩ = some (.slice (some ⟨go, 0, none⟩) n gk) := h18.trans d18
            rw [hc18] at hc18'
            simp only [Option.some.injEq, Value.slice.injEq, Addr.mk.injEq, and_true] at hc18'
            obtain ⟨rfl, hln, rfl⟩ := hc18'
            have HBeg := hide (begin_any L2 who M1.c.th go2 gk2 k (M1.os.set k o') o' p M1.now w2 hF2 (by rw [hs']; exact Hs0) (by rw [hs']; exact Hs1))
            have e16 : w2.cell? ⟨g, 16, none⟩ = some (.int .i64 M1.now) := hAt2.blk.1.cell 16
            have hpn : ((p : Int) != -1) = true := bne_iff_ne.2 (by omega)
            have hpI : (p : Int) < (M1.bs.length : Int) := by have := (List.getElem?_eq_some_iff.1 hb).1; omega
            have HAt2 := hide hAt2
            have HS2 : Hid (Step (ofP who) L1 wr L2 w2) := (Step.drewN L1 wr _).trans hS2
            have Hb := hide hb
            have Hs' := hide hs'
            clear hx1 hx2 hS2 h18 hx hpd hnm hb hop' ho2 hF2 hc18 hall hs' d18 d16
            go_wp2_with fail
            refine HBeg.out.mono ?_
            rintro e w3 ⟨rfl, hF3, hS3⟩
            have hA3 := AgAt.outs HAt2.out hS3 (fun q h => by simp [olP] at h; exact Or.inl h) hF3.2
            obtain ⟨g4, ca4, ck4, hC3⟩ := hF3.cells
            have e7 : w3.cell? ⟨go2, k * 10 + 7, none⟩ = some (.int .i64 (o'.sends + 1)) := hC3.c7
            rw [Hs'.out] at e7
            obtain ⟨ta, tk, htv, _⟩ := hA3.tk.shape
            subst htv
            obtain ⟨gt, hta, hgt, _, hct, _⟩ := hA3.tk.head (by show 0 < M1.bs.length; omega)
            subst hta
            have e0 : w3.cell? ⟨g, 0, none⟩ = some (.slice (some ⟨gt, 0, none⟩) M1.bs.length tk) := hA3.blk.1.cell 0
            have HRg : Hid (w3.rangeAt gt (p * 6) b.cells) := fun j u hu => hct _ u (flat_cell Bat.cells 6 Bat.cells_length Hb.out (List.getElem?_eq_some_iff.1 hu).1 hu)
            have HA3 : Hid (AgentAt w3 L2 who g { M1 with os := M1.os.set k { o' with sends := o.sends + 1, way := p, began := M1.now } }) := by
              have := hA3
              rw [List.set_set, Hs'.out] at this
              exact ⟨bq2, bm2, cn2, _, dv2, nv2, rv2, _, this⟩
            have HS3 : Hid (Step (ofP who) L1 wr L2 w3) := HS2.out.trans (hS3.mono (fun l h => ⟨_, h⟩))
            have hl7 := hC3.lt
            clear hF3 hS3 hA3 hC3 hct e16
            go_wp2_with (first
              | (refine wpList_load_mid rfl 155 _ rfl gt (p * 6) rfl [.int .i64 b.dst, encStr b.ten, encStr b.id, encStr b.body, .int .i64 b.st, .int .i64 b.fl] _ HRg.out Tryz.underlying155 rfl infoPBatchS ?_)
              | fail)
            generalize hV : World.alloc w3 _ = V
            have hBV : Below w3.heap.size w3 V := by rw [← hV]; exact (Below.refl _ _).alloc (Nat.le_refl _) _
            have hNV : Blk V w3.heap.size #[.int .i64 b.dst, encStr b.ten, encStr b.id, encStr b.body, .int .i64 b.st, .int .i64 b.fl] 155 := by rw [← hV]; exact Blk.new _ _ _
            have v7 : V.cell? ⟨go2, k * 10 + 7, none⟩ = some (.int .i64 (o.sends + 1)) := (hBV.cell (p := ⟨go2, k * 10 + 7, none⟩) hl7).trans e7
            have b2 : V.cell? ⟨w3.heap.size, 2, none⟩ = some (encStr b.id) := hNV.cell 2
            have b3 : V.cell? ⟨w3.heap.size, 3, none⟩ = some (encStr b.body) := hNV.cell 3
            have hvl : w3.heap.size < V.heap.size := hNV.lt
            have hvg : go2 < V.heap.size := Nat.lt_of_lt_of_le hl7 hBV.size
            have HRV := hide ((Hrow.out.keep HS3.out hl).keep (Step.of_below (p := fun _ => False) hBV) (fun h => h))
            have HAV := hide (HA3.out.keep (Step.of_below (p := fun _ => False) hBV) (fun _ h => h))
            have HSV : Hid (Step (fun x => ofP who x ∨ x = l) L w L2 V) := HS1.out.trans ((HS3.out.trans (Step.of_below hBV)).mono (fun x h => Or.inl h))
            obtain ⟨sd, hsd⟩ : ∃ sd : Sd, sd = ⟨k, o.sends + 1, b.id, b.body⟩ := ⟨_, rfl⟩
            have Hsd := hide hsd
            have HEnd : Hid (∀ g5 cap5 w5, w5.ownsRow 0 68 4 (.slice (some ⟨g5, 0, none⟩) (m + 1) cap5) (m + 1) ((M.sentOut k).2.flatMap Sd.cells ++ sd.cells) → (V.alloc (.cells sd.cells.toArray 68)).drew.grownBy w5 (Value.slice ea m ek).ownBlock → ((Value.slice ea m ek).ownBlock = some g5 ∨ g5 = V.heap.size + 1) →
                ∃ L5, RowAt w5 L5 l 68 4 (.slice (some ⟨g5, 0, none⟩) (m + 1) cap5) (m + 1) ((M.sentOut (k + 1)).2.flatMap Sd.cells) ∧ m + 1 = (M.sentOut (k + 1)).2.length ∧ AgentAt w5 L5 who g (M.sentOut (k + 1)).1 ∧ Step (fun x => ofP who x ∨ x = l) L w L5 w5) := fun g5 cap5 w5 a1 a2 a3 => by
              have hat : (Value.slice ea m ek).ownBlock = some g5 ∨ (V.alloc (.cells sd.cells.toArray 68)).drew.heap.size ≤ g5 := a3.imp id (fun e => by simp; omega)
              have hR2' := HRV.out.keep ((Step.alloc (p := fun _ => False) L2 V (.cells sd.cells.toArray 68)).trans (Step.drew L2 _)) (fun h => h)
              obtain ⟨hrow5, hlab5⟩ := RowAt.appended hR2' a1 hat
              have hsa : Step (fun x => x = l) L2 V (lay L2 g5 l) w5 := ((Step.alloc L2 V _).trans (Step.drew L2 _)).trans (Step.of_grown a2 (fun j hj => hR2'.2 j hj) hlab5)
              refine ⟨lay L2 g5 l, ?_, ?_, ?_, HSV.out.trans (hsa.mono (fun x h => Or.inr h))⟩
              · rw [HStep.out, HTo.out, List.flatMap_append]
                have : [sd].flatMap Sd.cells = sd.cells := by simp
                rw [← hsd, this]
                exact hrow5
              · rw [HStep.out, HTo.out, List.length_append, Hm.out]; rfl
              · rw [HStep.out, HTo.out]
                exact HAV.out.keep hsa (fun q h => hl ⟨q, h.symm⟩)
            clear hV hBV hNV e7 e0 hgt hsd
            go_region_law (refine step_append_lies _ (by rfl) _ _ _ (by rfl) 0 68 i0 (.agg #[.int .i64 0, .int .i64 0, .string ⟨#[]⟩, .string ⟨#[]⟩]) 4 48 Tryz.underlying65 hi hz0 hz1 hz2 rfl (by omega) (.slice ea m ek) m _ (by rfl) ((HRV.out.1.alloc _).drew) ⟨V.heap.size, 0, none⟩ 1 1 sd.cells (by rfl) (by rfl) (World.news_of_block (cs := sd.cells.toArray) (t := 68) (fr := (0, 0)) (by rw [Hsd.out]; exact heap_alloc_new V _)) (by rw [Hsd.out]; simp [Value.oneCell', Sd.cells, encStr]) (by omega) (by unfold maxLen; omega) (by omega) (Nat.zero_le _) (V.heap.size + 1) (by simp) ?_; intro g5 cap5 w5 hown5 hg5 hat5 hlt5; have HE5 := hide (HEnd.out g5 cap5 w5 hown5 (by rw [Hsd.out]; exact hg5) hat5); clear hown5 hg5 hat5)
            all_goals
              go_wp2_with fail
              go_roundw
              case rel =>
                obtain ⟨L5, r1, r2, r3, r4⟩ := HE5.out
                exact ⟨k + 1, L5, some ⟨g5, 0, none⟩, m + 1, cap5, by omega, by go_num, rfl, r2, r1, r3, r4⟩
              case measure => simp [intOf]; omega
          · obtain ⟨rfl, ⟨L2, hA2, hS2⟩, h18⟩ := hx1 hall
            have HA2 := hide hA2
            have hS2' : Step (ofP who) L1 wr L2 w2 := (Step.drewN L1 wr _).trans hS2
            have HR2 := hide (Hrow.out.keep hS2' hl)
            have HS2 : Hid (Step (fun x => ofP who x ∨ x = l) L w L2 w2) := HS1.out.trans (hS2'.mono (fun x h => Or.inl h))
            have hno := sentTo_not Hok'.out (Or.inr (Or.inr hall))
            have Hno := hide hno
            clear hA2 hS2 hS2' h18 hx1 hx2 hall hno
            go_wp2_with fail
            go_roundw
            case rel =>
              refine ⟨k + 1, L2, ea, m, ek, by omega, by go_num, rfl, ?_, ?_, ?_, HS2.out⟩
              · rw [HStep.out, Hno.out]; simp only [List.append_nil]; exact Hm.out
              · rw [HStep.out, Hno.out]; simp only [List.append_nil]; exact HR2.out
              · rw [HStep.out, Hno.out]; exact HA2.out
            case measure => simp [intOf]; omega
        · rw [hop] at HOpen
          have Hop : Hid (o.trip = true ∧ M1.now < o.unt) := by show _ ∧ _; simpa using hop
          clear hop
          go_wp2_with fail
          go_quiet (first | (go_at_call 111; exact Calls.quiet_of_same (HBusy.out _ (by exact E8.out))) | (go_at_call 112; exact Calls.quiet_of ((HOpen.out _ (by exact E3.out) (by exact E4.out)).mono (fun e w' h => h))))
          go_wp2_with fail
          go_roundw
          case rel =>
            have hno := sentTo_not Hok'.out (Or.inr (Or.inl Hop.out))
            refine ⟨k + 1, L1, ea, m, ek, by omega, by go_num, rfl, ?_, ?_, ?_, HS1.out.trans (Step.drewN L1 wr _)⟩
            · rw [HStep.out, hno]; simp only [List.append_nil]; exact Hm.out
            · rw [HStep.out, hno]; simp only [List.append_nil]; exact Hrow.out.keep (Step.drewN (p := fun _ => False) L1 wr _) (fun h => h)
            · rw [HStep.out, hno]; exact HA1.out.keep (Step.drewN (p := fun _ => False) L1 wr _) (fun _ h => h)
          case measure => simp [intOf]; omega
      · have hwb : (o.way != -1) = true := by simp [hw]
        rw [hwb] at HBusy
        have Hw := hide hw
        clear hw hwb
        go_wp2_with fail
        go_quiet (first | (go_at_call 111; exact Calls.quiet_of_same (HBusy.out _ (by exact E8.out))) | (go_at_call 112; exact Calls.quiet_of ((HOpen.out _ (by exact E3.out) (by exact E4.out)).mono (fun e w' h => h))))
        go_wp2_with fail
        go_roundw
        case rel =>
          have hno := sentTo_not Hok'.out (Or.inl Hw.out)
          refine ⟨k + 1, L1, ea, m, ek, by omega, by go_num, rfl, ?_, ?_, ?_, HS1.out.trans (Step.drewN L1 wr _)⟩
          · rw [HStep.out, hno]; simp only [List.append_nil]; exact Hm.out
          · rw [HStep.out, hno]; simp only [List.append_nil]; exact Hrow.out.keep (Step.drewN (p := fun _ => False) L1 wr _) (fun h => h)
          · rw [HStep.out, hno]; exact HA1.out.keep (Step.drewN (p := fun _ => False) L1 wr _) (fun _ h => h)
        case measure => simp [intOf]; omega
    · have hkn : k = n := by omega
      subst hkn
      go_wp2_with fail
      go_ret
      refine ⟨_, L1, rfl, ?_, HA1.out, HS1.out.fresh Hfr.out⟩
      rw [← Hm.out]
      exact Hrow.out
end Go.Proofs.YtojpjaifhjigfaaGreatDoor
