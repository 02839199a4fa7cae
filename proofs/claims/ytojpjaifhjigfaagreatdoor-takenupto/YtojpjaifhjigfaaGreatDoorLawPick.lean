/- pick, lasts; Submit keeps the two agents alike. -/
import Derived.Test.YtojpjaifhjigfaaGreatDoorRefSubmit
import Derived.Test.YtojpjaifhjigfaaGreatDoorLawOpened
namespace Go.Proofs.YtojpjaifhjigfaaGreatDoor
open Go.RowKit Go.Maps

/-- Which of n things a number speaks of. -/
def pickN (z : Int) (n : Nat) : Nat := (if z < 0 then (-(z + 1)).toNat else z.toNat) % n
theorem pickN_lt (z : Int) {n : Nat} (h : 0 < n) : pickN z n < n := Nat.mod_lt _ h

theorem pick_neg {z : Int} (n : Nat) (h : z < 0) : -(z + 1).tmod n = (pickN z n : Int) := by
  have e : z + 1 = -((-(z + 1)).toNat : Int) := by omega
  unfold pickN
  rw [if_pos h]
  generalize (-(z + 1)).toNat = k at *
  rw [e, Int.neg_tmod, Int.neg_neg]
  rfl
theorem pick_pos {z : Int} (n : Nat) (h : 0 ≤ z) : z % n = (pickN z n : Int) := by
  unfold pickN
  rw [if_neg (by omega)]
  obtain ⟨k, rfl⟩ := Int.eq_ofNat_of_zero_le h
  simp

set_option maxHeartbeats 1000000 in
theorem pick_any (z : Int) (n : Nat) (w : World) (h0 : -9223372036854775808 ≤ z) (h1 : z ≤ 9223372036854775807) (hn : 0 < n) : Calls Tryz.prog 40 #[.int .i64 z, .int .i64 n] w fun e w' => e = .returned (.int .i64 (pickN z n)) ∧ w' = w := by
  have hn0 : ¬ ((n : Int) = 0) := by omega
  by_cases hz : z < 0
  · go_enter Tryz.func40, Tryz.ntmps40
    go_wp2
    go_ret
    exact ⟨ret_int (pick_neg n hz), rfl⟩
  · go_enter Tryz.func40, Tryz.ntmps40
    go_wp2
    go_ret
    exact ⟨ret_int (pick_pos n hz), rfl⟩

set_option maxRecDepth 100000 in
set_option maxHeartbeats 1000000 in
theorem lasts_any (L : Labs) (who g : Nat) (R : Rf) (w : World) (h : RefAt w L who g R) (hb : R.rs.length ≤ 120) :
    Calls Tryz.prog 47 #[.pointer (some ⟨g, 0, none⟩)] w fun e w' => (∃ z, e = .returned (.int .i64 z)) ∧ Below w.heap.size w w' := by
  obtain ⟨nv, qv, bv, dv, la, lk, h⟩ := h
  obtain ⟨ta, tc, rfl, _⟩ := h.tk.shape
  have c13 : Hid (w.cell? ⟨g, 13, none⟩ = some (.slice ta R.rs.length tc)) := h.blk.1.cell 13
  have HT := hide h.tk
  have hgl := h.blk.1.lt
  generalize hn : R.rs.length = n at *
  have Hn := hide hn
  clear h hn
  go_enter Tryz.func47, Tryz.ntmps47
  go_wp2_with fail
  go_loopw [3, 4] (fun q i wr => ∃ (k : Nat) (z : Int), k ≤ n ∧ i = .int .i64 k ∧ q = .int .i64 z ∧ Below w.heap.size w wr) (fun _ i _ => n - (intOf i).toNat)
  case atStart => exact ⟨0, 0, Nat.zero_le _, rfl, rfl, Below.refl _ _⟩
  case round =>
    obtain ⟨k, z, hk, rfl, rfl, hnx⟩ := hrel
    have Hnx := hide hnx
    have d13 : wr.cell? ⟨g, 13, none⟩ = some (.slice ta n tc) := (hnx.cell (p := ⟨g, 13, none⟩) hgl).trans c13.out
    clear hnx
    by_cases hlt : k < n
    · have hltI : (k : Int) < (n : Int) := by omega
      obtain ⟨gt, rfl, hgt, _, hct, _⟩ := HT.out.head (by omega)
      obtain ⟨r, hr⟩ : ∃ r, R.rs[k]? = some r := ⟨_, List.getElem?_eq_getElem (by rw [Hn.out]; exact hlt)⟩
      have e4 : wr.cell? ⟨gt, k * 8 + 4, none⟩ = some (.int .i64 r.b.st) := (Hnx.out.cell (p := ⟨gt, _, none⟩) hgt).trans (hct _ _ (RBat.cell hr (by omega) rfl))
      have e5 : wr.cell? ⟨gt, k * 8 + 5, none⟩ = some (.int .i64 r.b.fl) := (Hnx.out.cell (p := ⟨gt, _, none⟩) hgt).trans (hct _ _ (RBat.cell hr (by omega) rfl))
      clear hct hr
      go_wp2_with fail
      go_quiet (fail)
      go_wp2_with fail
      go_roundw
      case rel => exact ⟨k + 1, _, by omega, by go_num, rfl, below_drewN Hnx.out _⟩
      case measure => simp [intOf]; omega
    · go_wp2_with fail
      go_ret
      exact ⟨⟨_, rfl⟩, Hnx.out⟩

theorem sim_refusal {M : Ag} {R : Rf} (h : Sim M R) (b : Bat) : R.refusal b = M.refusal b := by
  have hr : R.rs.length = M.bs.length := by have := congrArg List.length h.bs; simpa [Rf.bs] using this
  have e1 : (¬ (0 ≤ b.dst ∧ b.dst < R.c.d)) ↔ destB M b.dst = false := by
    rw [h.c]; simp [destB]
  have e2 : findN R.ns b.ten < 0 ↔ Maps.has M.D (.string b.ten) = false := by
    rw [findN_neg, h.hs]; simp
  have e3 : (b.id.length < 1 ∨ 16 < b.id.length) ↔ inB b.id.length 1 16 = false := by
    simp only [inB, Bool.and_eq_false_iff, decide_eq_false_iff_not]; omega
  have e5 : 0 ≤ findId R.bs b.id ↔ findId M.bs b.id ≠ -1 := by
    rw [h.bs]
    rcases findId_cases M.bs b.id with ⟨q, _⟩ | ⟨i, _, q, _⟩ <;> rw [q] <;> simp
  have e6 : (R.c.q ≤ (cntP R.bs b.ten : Int)) ↔ M.c.q ≤ (waits M.bs b.ten : Int) := by
    rw [h.c, h.waits]
  unfold Rf.refusal Ag.refusal Ag.misfit
  simp only [e1, e2, e3, e5, e6, hr]
  by_cases a1 : destB M b.dst = false
  · simp [a1]
  by_cases a2 : Maps.has M.D (.string b.ten) = false
  · simp [a1, a2]
  by_cases a3 : inB b.id.length 1 16 = false
  · simp [a1, a2, a3]
  by_cases a4 : 63 < b.body.length
  · simp [a1, a2, a3, a4]
  by_cases a5 : findId M.bs b.id ≠ -1
  · simp [a1, a2, a3, a4, a5]
  by_cases a6 : 120 ≤ M.bs.length
  · simp [a1, a2, a3, a4, a5, a6]
  · simp [a1, a2, a3, a4, a5, a6]

theorem sim_submitted {M : Ag} {R : Rf} (h : Sim M R) (b : Bat) : Sim (M.submitted b) (R.submitted b) := by
  unfold Ag.submitted Rf.submitted
  rw [sim_refusal h b]
  by_cases h0 : M.refusal b = 0
  · rw [if_pos h0, if_pos h0]
    obtain ⟨r1, r2, r3, r4, r5, r6, r7⟩ := refusal_zero h0
    have hd : 0 ≤ b.dst ∧ b.dst < M.c.d := by simpa [destB] using r1
    have hi : 1 ≤ b.id.length ∧ b.id.length ≤ 16 := by simp [inB] at r3; omega
    have ht : b.ten ∈ R.ns := (h.hs _).2 r2
    refine ⟨h.c, ?_, h.dd, h.dr, h.good, h.pm, h.nd, h.nl, h.sl, h.hs, ?_, ?_, ?_, ?_⟩
    · show (R.rs ++ [_]).map _ = M.bs ++ [_]
      rw [List.map_append]
      congr 1
      exact h.bs
    · show (M.bs ++ [_]).length ≤ 120
      simp; omega
    · intro x hx
      have hx' : x ∈ M.bs ++ [b.fresh] := hx
      rcases List.mem_append.1 hx' with q | q
      · exact h.each x q
      · obtain rfl := List.mem_singleton.1 q
        exact ⟨hd.1, hd.2, ht, rfl, hi.1, hi.2, r4⟩
    · show (M.rt ++ [_]).length = (M.bs ++ [_]).length
      simp [h.rt]
    · show (M.log ++ recBytes b).length ≤ 103 * (M.bs ++ [_]).length
      have h1 := h.lg
      have h2 := evBytes_le b (h.sl _ ht).2 hi.2 r4
      simp [recBytes]
      omega
  · rw [if_neg h0, if_neg h0]
    exact h
end Go.Proofs.YtojpjaifhjigfaaGreatDoor
