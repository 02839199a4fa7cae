/- refusal, Submit: the program's side. -/
import Derived.Test.YtojpjaifhjigfaaGreatDoorMisfit
namespace Go.Proofs.YtojpjaifhjigfaaGreatDoor
open Go.RowKit Go.Maps

theorem errV_pos (A : Nat → Addr) {n : Nat} (h : n ≠ 0) : ∃ k, n = k + 1 ∧ errV A n = ev A k := by
  obtain ⟨k, rfl⟩ := Nat.exists_eq_succ_of_ne_zero h
  exact ⟨k, rfl, rfl⟩

set_option maxRecDepth 100000 in
set_option maxHeartbeats 2000000 in
theorem refusal_any (A : Nat → Addr) (L : Labs) (who g : Nat) (M : Ag) (b : Bat) (w : World) (hS : Sents.Holds w 260 gl 11 A) (h : AgentAt w L who g M) (hb : M.bs.length ≤ 120) (ht : b.ten.length ≤ maxLen) :
    Calls Tryz.prog 65 #[.pointer (some ⟨g, 0, none⟩), batVal b] w fun e w' => e = .returned (errV A (M.refusal b)) ∧ Below w.heap.size w w' := by
  have HM : Hid (∀ w1, Below w.heap.size w w1 → Calls Tryz.prog 108 #[.pointer (some ⟨g, 0, none⟩), batVal b] w1 fun e w' => e = .returned (errV A (M.misfit b)) ∧ Below w1.heap.size w1 w') := fun w1 h1 => misfit_any A L who g M b w1 (hS.below h1) (h.keep (Step.of_below (p := fun _ => False) (L := L) h1) (fun _ h => h)) hb ht
  have HW : Hid (∀ w1, Below w.heap.size w w1 → Calls Tryz.prog 77 #[.pointer (some ⟨g, 0, none⟩)] w1 fun e w' => NewCounts w1 w' (waits M.bs) e) := fun w1 h1 => pWaiting_any L who g M w1 (h.keep (Step.of_below (p := fun _ => False) (L := L) h1) (fun _ h => h)) hb
  have HS := hide hS
  have c6 : w.cell? ⟨g, 6, none⟩ = some (.int .i64 M.c.q) := by obtain ⟨bq, bm, cn, tv, dv, nv, rv, ov, h⟩ := h; exact h.blk.1.cell 6
  have hgl : g < w.heap.size := World.block_lt_of_cell? w _ c6
  have hkS := keyStr ht
  have HKS := hide hkS
  have hB0 := fun o => (Below.refl w.heap.size w).alloc (Nat.le_refl _) o
  have hB00 := hide hB0
  unfold batVal at *
  clear h hS hkS hB0
  go_enter Tryz.func65, Tryz.ntmps65
  go_wp2_with fail
  refine (HM.out _ (hB00.out _)).mono ?_
  rintro e w1 ⟨rfl, hb1⟩
  have hB1 : Below w.heap.size w w1 := (hB00.out _).trans (hb1.mono (by simp))
  have hN1 : Blk w1 w.heap.size #[.int .i64 b.dst, encStr b.ten, encStr b.id, encStr b.body] 45 := (Blk.new w _ _).below hb1 (by simp)
  have n1 : w1.cell? ⟨w.heap.size, 1, none⟩ = some (encStr b.ten) := hN1.cell 1
  have d6 : w1.cell? ⟨g, 6, none⟩ = some (.int .i64 M.c.q) := (hB1.cell (p := ⟨g, 6, none⟩) hgl).trans c6
  have q8 := (HS.out.below hB1).cell 8 (by decide)
  simp only [gl, List.getD_cons_zero, List.getD_cons_succ] at q8
  have hgl1 : g < w1.heap.size := Nat.lt_of_lt_of_le hgl hB1.size
  have hnl := hN1.lt
  have HB1 := hide hB1
  have HN1 := hide hN1
  clear hb1 hB1 hN1 c6 hgl
  by_cases hm : M.misfit b = 0
  · have HM0 := hide hm
    rw [hm]
    simp only [errV]
    clear hm
    by_cases h9 : M.c.q ≤ (waits M.bs b.ten : Int)
    · have H9 := hide h9
      go_wp2_with fail
      go_region_with ((go_at_call 77; refine (HW.out _ (by exact HB1.out.drew)).mono ?_; rintro e w2 ⟨bw, nw, D, rfl, hbw, hO, hnw, hC, hb2⟩; have hB2 := HB1.out.drew.trans (hb2.mono HB1.out.size); have n1' : w2.cell? ⟨w.heap.size, 1, none⟩ = some (encStr b.ten) := (hb2.cell (p := ⟨w.heap.size, 1, none⟩) hnl).trans n1; have d6' : w2.cell? ⟨g, 6, none⟩ = some (.int .i64 M.c.q) := (hb2.cell (p := ⟨g, 6, none⟩) hgl1).trans d6; obtain ⟨c, hlk, hat, _⟩ := World.ownsMap.lookup_int hO lawS Tryz.underlying22 Tryz.underlying3 (zeroInt _) HKS.out; obtain rfl := hC.look ht hat; have HB2 := hide hB2; have HS2 := hide (HS.out.below hB2); clear hbw hO hnw hC hb2 hB2 hat))
      all_goals
        have q8' := HS2.out.cell 8 (by decide)
        simp only [gl, List.getD_cons_zero, List.getD_cons_succ] at q8'
        go_wp2_with fail
        go_ret
        exact ⟨by simp [Ag.refusal, HM0.out, if_pos H9.out, errV, ev], HB2.out⟩
    · have H9 := hide h9
      go_wp2_with fail
      go_region_with ((go_at_call 77; refine (HW.out _ (by exact HB1.out.drew)).mono ?_; rintro e w2 ⟨bw, nw, D, rfl, hbw, hO, hnw, hC, hb2⟩; have hB2 := HB1.out.drew.trans (hb2.mono HB1.out.size); have n1' : w2.cell? ⟨w.heap.size, 1, none⟩ = some (encStr b.ten) := (hb2.cell (p := ⟨w.heap.size, 1, none⟩) hnl).trans n1; have d6' : w2.cell? ⟨g, 6, none⟩ = some (.int .i64 M.c.q) := (hb2.cell (p := ⟨g, 6, none⟩) hgl1).trans d6; obtain ⟨c, hlk, hat, _⟩ := World.ownsMap.lookup_int hO lawS Tryz.underlying22 Tryz.underlying3 (zeroInt _) HKS.out; obtain rfl := hC.look ht hat; have HB2 := hide hB2; have HS2 := hide (HS.out.below hB2); clear hbw hO hnw hC hb2 hB2 hat))
      all_goals
        go_wp2_with fail
        go_ret
        exact ⟨by simp [Ag.refusal, HM0.out, if_neg (Int.not_le.2 H9.out), errV], HB2.out⟩
  · obtain ⟨k, hk, hv⟩ := errV_pos A hm
    rw [hv]
    have Hk := hide hk
    clear hv hm hk
    unfold ev
    go_wp2_with fail
    go_ret
    exact ⟨by simp [Ag.refusal, Hk.out, errV, ev], HB1.out⟩

/-- An agent behind a Submit. -/
def Ag.submitted (M : Ag) (b : Bat) : Ag := if M.refusal b = 0 then M.taken b else M

theorem refusal_zero {M : Ag} {b : Bat} (h : M.refusal b = 0) : destB M b.dst = true ∧ Maps.has M.D (.string b.ten) = true ∧ inB b.id.length 1 16 = true ∧ b.body.length ≤ 63 ∧ findId M.bs b.id = -1 ∧ M.bs.length < 120 ∧ (waits M.bs b.ten : Int) < M.c.q := by
  unfold Ag.refusal at h
  by_cases h1 : M.misfit b = 0
  · rw [if_neg (by simpa using h1)] at h
    have h9 : (waits M.bs b.ten : Int) < M.c.q := by
      by_cases h9 : M.c.q ≤ (waits M.bs b.ten : Int)
      · rw [if_pos h9] at h; cases h
      · omega
    unfold Ag.misfit at h1
    by_cases a1 : destB M b.dst = false
    · rw [if_pos a1] at h1; cases h1
    rw [if_neg a1] at h1
    by_cases a2 : Maps.has M.D (.string b.ten) = false
    · rw [if_pos a2] at h1; cases h1
    rw [if_neg a2] at h1
    by_cases a3 : inB b.id.length 1 16 = false
    · rw [if_pos a3] at h1; cases h1
    rw [if_neg a3] at h1
    by_cases a4 : 63 < b.body.length
    · rw [if_pos a4] at h1; cases h1
    rw [if_neg a4] at h1
    by_cases a5 : findId M.bs b.id ≠ -1
    · rw [if_pos a5] at h1; cases h1
    rw [if_neg a5] at h1
    by_cases a6 : 120 ≤ M.bs.length
    · rw [if_pos a6] at h1; cases h1
    exact ⟨by simpa using a1, by simpa using a2, by simpa using a3, by omega, by simpa using a5, by omega, h9⟩
  · rw [if_pos h1] at h
    exact absurd h h1

set_option maxRecDepth 100000 in
set_option maxHeartbeats 2000000 in
theorem submit_any (A : Nat → Addr) (L : Labs) (who g : Nat) (M : Ag) (b : Bat) (w : World) (hS : Sents.Holds w 260 gl 11 A) (h : AgentAt w L who g M) (hb : M.bs.length ≤ 120) (ht : b.ten.length ≤ maxLen) (hd4 : M.c.d ≤ 4) (hn16 : ∀ x, Maps.has M.D (.string x) = true → x.length ≤ 16) (hlg : M.log.length ≤ 900000) (hrt : M.rt.length ≤ 120) :
    Calls Tryz.prog 27 #[.pointer (some ⟨g, 0, none⟩), batVal b] w fun e w' => e = .returned (errV A (M.refusal b)) ∧ Turned w L who g (M.submitted b) w' := by
  have hB0 := fun o => (Below.refl w.heap.size w).alloc (Nat.le_refl _) o
  have HR : Hid (∀ w1, Below w.heap.size w w1 → Calls Tryz.prog 65 #[.pointer (some ⟨g, 0, none⟩), batVal b] w1 fun e w' => e = .returned (errV A (M.refusal b)) ∧ Below w1.heap.size w1 w') := fun w1 h1 => refusal_any A L who g M b w1 (hS.below h1) (h.keep (Step.of_below (p := fun _ => False) (L := L) h1) (fun _ h => h)) hb ht
  have HA := hide h
  have hB00 := hide hB0
  unfold batVal at *
  clear h hS hB0
  go_enter Tryz.func27, Tryz.ntmps27
  go_wp2_with fail
  refine (HR.out _ (hB00.out _)).mono ?_
  rintro e w1 ⟨rfl, hb1⟩
  have hB1 : Below w.heap.size w w1 := (hB00.out _).trans (hb1.mono (by simp))
  have hN1 : Blk w1 w.heap.size #[.int .i64 b.dst, encStr b.ten, encStr b.id, encStr b.body] 45 := (Blk.new w _ _).below hb1 (by simp)
  have n0 : w1.cell? ⟨w.heap.size, 0, none⟩ = some (.int .i64 b.dst) := hN1.cell 0
  have n1 : w1.cell? ⟨w.heap.size, 1, none⟩ = some (encStr b.ten) := hN1.cell 1
  have n2 : w1.cell? ⟨w.heap.size, 2, none⟩ = some (encStr b.id) := hN1.cell 2
  have n3 : w1.cell? ⟨w.heap.size, 3, none⟩ = some (encStr b.body) := hN1.cell 3
  have hnl := hN1.lt
  have HB1 := hide hB1
  clear hb1 hB1 hN1
  by_cases hr : M.refusal b = 0
  · obtain ⟨r1, r2, r3, r4, r5, r6, r7⟩ := refusal_zero hr
    have hdd : 0 ≤ b.dst ∧ b.dst < 4 := by simp [destB] at r1; omega
    have hid : b.id.length ≤ 16 := by simp [inB] at r3; omega
    have HAd := hide (admit_any L who g M b w1 (HA.out.keep (Step.of_below (p := fun _ => False) (L := L) HB1.out) (fun _ h => h)) r6 hdd (hn16 _ r2) hid r4 hlg hrt)
    have HE : Hid (M.submitted b = M.taken b) := if_pos hr
    have HR0 := hide hr
    rw [hr]
    simp only [errV]
    unfold batVal at HAd
    clear r1 r2 r3 r4 r5 r6 r7 hr
    go_wp2_with fail
    refine HAd.out.mono ?_
    rintro e w2 ⟨rfl, L2, hA2, hS2⟩
    have HT : Hid (Turned w L who g (M.taken b) w2) := ⟨L2, hA2, (Step.of_below HB1.out).trans hS2⟩
    clear hA2 hS2
    go_wp2_with fail
    go_ret
    exact ⟨by rw [HR0.out]; rfl, by rw [HE.out]; exact HT.out⟩
  · obtain ⟨k, hk, hv⟩ := errV_pos A hr
    have HE : Hid (M.submitted b = M) := if_neg hr
    have HV := hide hv
    rw [hv]
    clear hv hr hk
    unfold ev
    go_wp2_with fail
    go_ret
    exact ⟨by rw [HV.out]; rfl, L, by rw [HE.out]; exact HA.out.keep (Step.of_below (p := fun _ => False) HB1.out) (fun _ h => h), Step.of_below HB1.out⟩
end Go.Proofs.YtojpjaifhjigfaaGreatDoor
