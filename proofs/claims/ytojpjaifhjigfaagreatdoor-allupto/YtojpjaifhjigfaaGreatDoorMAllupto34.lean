/- (*pair).compacted. -/
import Derived.Test.YtojpjaifhjigfaaGreatDoorMAllupto33
namespace Go.Proofs.YtojpjaifhjigfaaGreatDoor
open Go.RowKit Go.Maps

theorem mostOf_snoc (bs : List Bat) (b : Bat) : mostOf (bs ++ [b]) = mostOf bs + (16 + b.id.length + b.ten.length + b.body.length) := by simp [mostOf]
theorem mostOf_bd {M : Ag} {t : Nat} (h : Inv M t) : ∀ k, mostOf (M.bs.take k) ≤ 111 * k
  | 0 => by simp [mostOf]
  | k + 1 => by
    have ih := mostOf_bd h k
    by_cases hk : k < M.bs.length
    · rw [List.take_succ_eq_append_getElem hk, mostOf_snoc]
      obtain ⟨_, _, h3, _, h5, h6, _⟩ := h.each _ (List.getElem_mem hk)
      have := (h.sl _ h3).2
      omega
    · rw [List.take_of_length_le (by omega)]
      rw [List.take_of_length_le (by omega)] at ih
      omega

set_option maxRecDepth 100000 in
set_option maxHeartbeats 4000000 in
theorem compacted_core (L : Labs) (i gp t : Nat) (M : Ag) (R : Rf) (P : PD) (w : World) (hP : PairAt w L i gp t M R P) :
    Calls Tryz.prog 53 #[.pointer (some ⟨gp, 0, none⟩)] w fun e w' => e = .returned (.bool true) ∧ ∃ L' sv', PairAt w' L' i gp (t + 200) M.compacted R { P with lg := encStr M.compacted.log, sv := sv', sts := [⟨M.compacted.log.length, R.rs, R.dead⟩] } ∧ Step (fun l => ofP (2 * i + 1) l ∨ prP i l) L w L' w' := by
  obtain ⟨gx, gy, hpb, hA, hR, hSim, hInv, hSt, hMp⟩ := hP
  have p0 : w.cell? ⟨gp, 0, none⟩ = some (.pointer (some ⟨gx, 0, none⟩)) := hpb.1.cell 0
  have hgpl := hpb.1.lt
  have HComp := hide (compact_any L (2 * i + 1) gx t M w hA hInv)
  have HPb := hide hpb
  have HR := hide hR
  have HSim := hide hSim
  have HInv := hide hInv
  have HMp := hide hMp
  obtain ⟨N, hN⟩ : ∃ N, M.compacted = N := ⟨_, rfl⟩
  have HNl : Hid (N.log.length ≤ 36003) := by show _ ≤ _; rw [← hN]; exact hInv.compacted_len
  have HNs : Hid (N.log.length ≤ 16 + mostOf M.bs) := by show _ ≤ _; rw [← hN]; exact hInv.short_len
  have HSN : Hid (Sim N R) := by show Sim _ _; rw [← hN]; exact hSim.logged _
  have HIN : Hid (Inv N (t + 200)) := by show Inv _ _; rw [← hN]; exact hInv.compacted
  rw [hN] at HComp ⊢
  clear hpb hA hR hSim hInv hSt hMp hN
  go_enter Tryz.func53, Tryz.ntmps53
  go_wp2_with fail
  refine HComp.out.mono ?_
  rintro e w1 ⟨rfl, L1, hA1, hS1⟩
  have hpb1 := HPb.out.keep hS1 (not_ofP (by omega) _)
  have hR1 := HR.out.keep hS1 (fun q => not_ofP (by omega) q)
  have hMp1 := HMp.out.keep hS1 (by rintro ⟨q, hq⟩; cases hq)
  have a0 : w1.cell? ⟨gp, 0, none⟩ = some (.pointer (some ⟨gx, 0, none⟩)) := hpb1.1.cell 0
  have hg1 := hpb1.1.lt
  have HLog := hide (log_any L1 (2 * i + 1) gx N w1 hA1)
  have HA1 := hide hA1
  have HPb1 := hide hpb1
  have HR1 := hide hR1
  have HMp1 := hide hMp1
  have HS1 := hide hS1
  clear hA1 hS1 hpb1 hR1 hMp1 p0 HComp
  go_wp2_with fail
  refine HLog.out.mono ?_
  rintro e w2 ⟨rfl, hw2⟩
  have hw2' := hw2.symm
  subst hw2'
  have a14 : w1.cell? ⟨gp, 14, none⟩ = some P.lg := HPb1.out.1.cell 14
  have f14 : w1.frozen? ⟨gp, 14, none⟩ = false := HPb1.out.1.frozen 14
  clear hw2
  go_upto_region 3 with fail
  generalize hV : World.setCell w1 _ _ = V
  have hV' : w1.setCell ⟨gp, 14, none⟩ (encStr N.log) = V := hV
  have hSV : Step (fun l => l = bl 8 i) L1 w1 L1 V := by rw [← hV']; exact Step.setCell L1 w1 ⟨gp, 14, none⟩ _ HPb1.out.2
  have hpbV : BlkAt V L1 (bl 8 i) gp (prCells gx gy P.c P.m P.sv (encStr N.log)) 102 := by
    have := HPb1.out.1.set 14 (encStr N.log)
    rw [prCells_set14, hV'] at this
    exact ⟨this, HPb1.out.2⟩
  have hRV := HR1.out.keep hSV (fun q => by simp [bl])
  have v1 : V.cell? ⟨gp, 1, none⟩ = some (.pointer (some ⟨gy, 0, none⟩)) := hpbV.1.cell 1
  have hgV := hpbV.1.lt
  have HK := hide (refKept_any L1 (2 * i + 2) gy R V hRV (HSim.out.r120 HInv.out) (by rw [HSim.out.dead]; exact HInv.out.dead_le))
  have HPbV := hide hpbV
  have HAV := hide (HA1.out.keep hSV (fun q => by simp [bl]))
  have HRV := hide hRV
  have HMpV := hide (HMp1.out.keep hSV (by simp [bl]))
  have HSV := hide hSV
  clear hV hV' hpbV hRV hSV a0 a14 f14 HLog
  go_wp2_with fail
  refine HK.out.mono ?_
  rintro e w2 ⟨ba, bk, da, dk, rfl, hkb, hkd, hkn, hb2⟩
  have hz2 := hb2.size
  have HBk2 : Hid (Blk w2 gp (prCells gx gy P.c P.m P.sv (encStr N.log)) 102) := HPbV.out.1.below hb2 hgV
  have x14 : w2.cell? ⟨gp, 14, none⟩ = some (encStr N.log) := HBk2.out.cell 14
  have x13 : w2.cell? ⟨gp, 13, none⟩ = some P.sv := HBk2.out.cell 13
  have f13 : w2.frozen? ⟨gp, 13, none⟩ = false := HBk2.out.frozen 13
  have hgp2 : gp < w2.heap.size := by omega
  have hNl := HNl.out
  have Hkb := hide hkb
  have Hkd := hide hkd
  have Hkn := hide hkn
  have HB2 := hide hb2
  generalize hnb : R.rs.length = nb at *
  generalize hnd : R.dead.length = nd at *
  have Hnb := hide hnb
  have Hnd := hide hnd
  clear hkb hkd hkn hb2 v1 hnb hnd
  go_wp2_with fail
  generalize hX : World.alloc (World.setCell w2 _ _) _ = X0
  have hX' : (w2.setCell ⟨gp, 13, none⟩ (.slice (some ⟨w2.heap.size, 0, none⟩) 1 1)).alloc (.cells #[.int .i64 (N.log.length : Int), .slice ba nb bk, .slice da nd dk] 105) = X0 := hX
  have hbb : ∀ k, (Value.slice ba nb bk).ownBlock = some k → V.heap.size ≤ k ∧ k < w2.heap.size := fun k hk => Hkb.out.lt k hk
  have hbd : ∀ k, (Value.slice da nd dk).ownBlock = some k → V.heap.size ≤ k ∧ k < w2.heap.size := fun k hk => Hkd.out.lt k hk
  obtain ⟨L2, hL2⟩ : ∃ L2, L2 = layO (layO L1 (Value.slice ba nb bk).ownBlock (bl 10 i)) (Value.slice da nd dk).ownBlock (bl 11 i) := ⟨_, rfl⟩
  have hL2o : ∀ k, k < V.heap.size → L2 k = L1 k := fun k hk => by rw [hL2, layO_other (fun e => by have := hbd k e; omega), layO_other (fun e => by have := hbb k e; omega)]
  have s2 : ∀ p, Step p L1 V L2 w2 := fun p => Step.of_below' HB2.out hL2o
  have hRb : RowAt w2 L2 (bl 10 i) 112 8 (.slice ba nb bk) nb (R.rs.flatMap RBat.cells) := ⟨ownsRow_same Hkb.out (fun _ _ => rfl) (Nat.zero_le _), fun k hk => by rw [hL2, layO_other (row_types Hkb.out Hkd.out (by decide) hk), layO_same hk]⟩
  have hRd : RowAt w2 L2 (bl 11 i) 3 1 (.slice da nd dk) nd (ints R.dead) := ⟨ownsRow_same Hkd.out (fun _ _ => rfl) (Nat.zero_le _), fun k hk => by rw [hL2, layO_same hk]⟩
  have hLgp : L2 gp = bl 8 i := by rw [hL2o gp hgV]; exact HPbV.out.2
  have s3 : Step (fun l => l = bl 8 i) L2 w2 (lay L2 w2.heap.size (bl 9 i)) X0 := by
    rw [← hX']
    refine (Step.setCell L2 w2 ⟨gp, 13, none⟩ (.slice (some ⟨w2.heap.size, 0, none⟩) 1 1) hLgp).trans ?_
    have hsz : (w2.setCell ⟨gp, 13, none⟩ (.slice (some ⟨w2.heap.size, 0, none⟩) 1 1)).heap.size = w2.heap.size := by simp [World.setCell]
    exact Step.of_below' ((Below.refl _ _).alloc (Nat.le_refl _) _) (fun k hk => lay_other _ _ (by omega))
  have hpbX : BlkAt X0 (lay L2 w2.heap.size (bl 9 i)) (bl 8 i) gp (prCells gx gy P.c P.m (.slice (some ⟨w2.heap.size, 0, none⟩) 1 1) (encStr N.log)) 102 := by
    refine ⟨?_, by rw [lay_other _ _ (by omega)]; exact hLgp⟩
    have := (HBk2.out.set 13 (.slice (some ⟨w2.heap.size, 0, none⟩) 1 1)).alloc (.cells #[.int .i64 (N.log.length : Int), .slice ba nb bk, .slice da nd dk] 105)
    rw [prCells_set13, hX'] at this
    exact this
  have hKs : Blk X0 w2.heap.size #[.int .i64 (N.log.length : Int), .slice ba nb bk, .slice da nd dk] 105 := by
    rw [← hX']
    exact Blk.made (by simp [World.setCell]) _ _
  have hStX : StandsAt X0 (lay L2 w2.heap.size (bl 9 i)) i (.slice (some ⟨w2.heap.size, 0, none⟩) 1 1) [⟨N.log.length, R.rs, R.dead⟩] := by
    refine ⟨[(.slice ba nb bk, .slice da nd dk)], rfl, ⟨⟨rfl, Or.inr ⟨w2.heap.size, 1, _, rfl, Nat.zero_le _, hKs, Nat.le_refl _, by simp [maxLen], rfl, rfl⟩⟩, fun q hq => ?_⟩, fun j s f hs hf => ?_⟩
    · obtain rfl : w2.heap.size = q := by simpa [Value.ownBlock] using hq
      exact lay_same _ _ _
    · match j with
      | 0 =>
        simp at hs hf
        subst hs
        subst hf
        have k1 := Hnb.out
        have k2 := Hnd.out
        refine ⟨⟨ba, bk, by rw [k1], ?_⟩, da, dk, by rw [k2], ?_, fun h => Hkn.out (by rw [← k2]; exact h)⟩
        · rw [k1]; exact hRb.keep s3 (by simp [bl])
        · rw [k2]; exact hRd.keep s3 (by simp [bl])
      | j + 1 => simp at hs
  have hRX := (HRV.out.keep (s2 (fun _ => False)) (fun _ h => h)).keep s3 (fun q => by simp [bl])
  have HPX : Hid (PairAt X0 (lay L2 w2.heap.size (bl 9 i)) i gp (t + 200) N R { P with lg := encStr N.log, sv := .slice (some ⟨w2.heap.size, 0, none⟩) 1 1, sts := [⟨N.log.length, R.rs, R.dead⟩] }) := ⟨gx, gy, hpbX, (HAV.out.keep (s2 (fun _ => False)) (fun _ h => h)).keep s3 (fun q => by simp [bl]), hRX, HSN.out, HIN.out, hStX, (HMpV.out.keep (s2 (fun _ => False)) (fun h => h)).keep s3 (by simp [bl])⟩
  have HSX : Hid (Step (fun l => ofP (2 * i + 1) l ∨ prP i l) L w (lay L2 w2.heap.size (bl 9 i)) X0) := (((HS1.out.mono (fun l h => Or.inl h)).trans (HSV.out.mono (fun l h => Or.inr (Or.inl h)))).trans (s2 _)).trans (s3.mono (fun l h => Or.inr (Or.inl h)))
  have z1 : X0.cell? ⟨gp, 1, none⟩ = some (.pointer (some ⟨gy, 0, none⟩)) := hpbX.1.cell 1
  have Z14 : Hid (X0.cell? ⟨gp, 14, none⟩ = some (encStr N.log)) := hpbX.1.cell 14
  have Z1 := hide z1
  have hgX := hpbX.1.lt
  obtain ⟨nv, qv, bv, dv, la, lk, hrf⟩ := hRX
  obtain ⟨ta, tc, rfl, _⟩ := hrf.tk.shape
  have Z13 : Hid (X0.cell? ⟨gy, 13, none⟩ = some (.slice ta nb tc)) := by
    have : X0.cell? ⟨gy, 13, none⟩ = some (.slice ta R.rs.length tc) := hrf.blk.1.cell 13
    rw [Hnb.out] at this
    exact this
  have hgyX := hrf.blk.1.lt
  have HTk : Hid (RowAt X0 (lay L2 w2.heap.size (bl 9 i)) (some (2 * i + 2, .tk)) 112 8 (.slice ta nb tc) nb (R.rs.flatMap RBat.cells)) := by have := hrf.tk; rw [Hnb.out] at this; exact this
  have hnb120 : nb ≤ 120 := by rw [← Hnb.out]; exact HSim.out.r120 HInv.out
  have Hbd := hide (mostOf_bd HInv.out)
  clear hX hX' hbb hbd hL2 hL2o s2 hRb hRd hLgp s3 hpbX hKs hStX hrf x13 x14 f13 HBk2 z1
  go_loopw [5, 6, 7] (fun q5 q _ wr => ∃ k : Nat, k ≤ nb ∧ q = .int .i64 k ∧ q5 = .int .i64 ((16 + mostOf (M.bs.take k) : Nat) : Int) ∧ Below X0.heap.size X0 wr) (fun _ q _ _ => nb - (intOf q).toNat)
  case atStart => exact ⟨0, Nat.zero_le _, rfl, rfl, Below.refl _ _⟩
  case round =>
    obtain ⟨k, hk, rfl, rfl, hnx⟩ := hrel
    have Hnx := hide hnx
    have d1 : wr.cell? ⟨gp, 1, none⟩ = some (.pointer (some ⟨gy, 0, none⟩)) := (hnx.cell (p := ⟨gp, 1, none⟩) hgX).trans Z1.out
    have d13 : wr.cell? ⟨gy, 13, none⟩ = some (.slice ta nb tc) := (hnx.cell (p := ⟨gy, 13, none⟩) hgyX).trans Z13.out
    have hmb := Hbd.out k
    by_cases hlt : k < nb
    · have hltI : (k : Int) < (nb : Int) := by omega
      obtain ⟨gt, eta, hgt, _, hct, _⟩ := HTk.out.head (by omega)
      subst eta
      obtain ⟨r, hr⟩ : ∃ r, R.rs[k]? = some r := ⟨_, List.getElem?_eq_getElem (by rw [Hnb.out]; exact hlt)⟩
      have hcw : ∀ j v, r.cells[j]? = some v → wr.cell? ⟨gt, k * 8 + j, none⟩ = some v := fun j v hv => (hnx.cell (p := ⟨gt, _, none⟩) hgt).trans (hct _ _ (RBat.cell hr (by have := (List.getElem?_eq_some_iff.1 hv).1; rw [RBat.cells_length] at this; exact this) hv))
      have y0 : wr.cell? ⟨gt, k * 8, none⟩ = some (.int .i64 r.b.dst) := hcw 0 _ rfl
      have y1 : wr.cell? ⟨gt, k * 8 + 1, none⟩ = some (encStr r.b.ten) := hcw 1 _ rfl
      have y2 : wr.cell? ⟨gt, k * 8 + 2, none⟩ = some (encStr r.b.id) := hcw 2 _ rfl
      have y3 : wr.cell? ⟨gt, k * 8 + 3, none⟩ = some (encStr r.b.body) := hcw 3 _ rfl
      have y4 : wr.cell? ⟨gt, k * 8 + 4, none⟩ = some (.int .i64 r.b.st) := hcw 4 _ rfl
      have y5 : wr.cell? ⟨gt, k * 8 + 5, none⟩ = some (.int .i64 r.b.fl) := hcw 5 _ rfl
      have y6 : wr.cell? ⟨gt, k * 8 + 6, none⟩ = some (.int .i64 r.pa) := hcw 6 _ rfl
      have y7 : wr.cell? ⟨gt, k * 8 + 7, none⟩ = some (.int .i64 r.af) := hcw 7 _ rfl
      have hbk : M.bs[k]? = some r.b := by rw [← HSim.out.bs]; exact Rf.get hr
      obtain ⟨_, _, b3, _, b5, b6, _⟩ := HInv.out.each r.b (List.mem_of_getElem? hbk)
      have b7 := (HInv.out.sl _ b3).2
      have HNx : Hid (mostOf (M.bs.take (k + 1)) = mostOf (M.bs.take k) + (16 + r.b.id.length + r.b.ten.length + r.b.body.length)) := by
        obtain ⟨hkb, e⟩ := List.getElem?_eq_some_iff.1 hbk
        show _ = _
        rw [List.take_succ_eq_append_getElem hkb, mostOf_snoc, e]
      generalize mostOf (M.bs.take k) = m0 at *
      generalize r.b.id = ridd at *
      generalize r.b.ten = rten at *
      generalize r.b.body = rbod at *
      clear hct hr hcw hnx hbk b3
      go_wp2_with fail
      go_roundw
      case rel => exact ⟨k + 1, by omega, by go_num, by rw [HNx.out]; congr 1; omega, Hnx.out.alloc Hnx.out.size _⟩
      case measure => simp [intOf]; omega
    · have hkn : nb = k := by omega
      subst hkn
      have d14 : wr.cell? ⟨gp, 14, none⟩ = some (encStr N.log) := (hnx.cell (p := ⟨gp, 14, none⟩) hgX).trans Z14.out
      have hle : (N.log.length : Int) ≤ ((16 + mostOf (M.bs.take nb) : Nat) : Int) := by
        have := HNs.out
        rw [List.take_of_length_le (by rw [← HSim.out.rl, Hnb.out]; exact Nat.le_refl _)]
        omega
      have hled : decide ((N.log.length : Int) ≤ ((16 + mostOf (M.bs.take nb) : Nat) : Int)) = true := by simpa using hle
      have hNm : N.log.length ≤ maxLen := by unfold maxLen; omega
      clear hnx
      go_wp2_with fail
      go_ret
      have sX : Step (fun _ => False) (lay L2 w2.heap.size (bl 9 i)) X0 (lay L2 w2.heap.size (bl 9 i)) wr := Step.of_below Hnx.out
      refine ⟨by simp; omega, lay L2 w2.heap.size (bl 9 i), _, HPX.out.keep sX (fun h => h) (fun _ _ _ h => h) (fun _ h => h) (fun _ h => h) (Nat.le_refl _), HSX.out.trans (Step.of_below Hnx.out)⟩
end Go.Proofs.YtojpjaifhjigfaaGreatDoor
