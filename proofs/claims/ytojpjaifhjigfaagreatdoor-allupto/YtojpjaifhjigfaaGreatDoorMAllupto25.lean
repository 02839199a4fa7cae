/- Steps of the proof (several texts in one): Repeat, Replay. -/
import Derived.Test.YtojpjaifhjigfaaGreatDoorMAllupto09
import Derived.Laws.CopyRow
import Derived.Test.YtojpjaifhjigfaaGreatDoorMAllupto24

/- slices.Repeat of one element. -/
namespace Go.Proofs.YtojpjaifhjigfaaGreatDoor
open Go.RowKit Go.Maps

theorem run_copy_many {P : Program} (w : World) (dT sT ty elem : TypeId) (i : TypeInfo) (g o dLen dCap : Nat) (a : Addr) (sLen sCap : Nat) (cur : Array Value) (t : TypeId) (cs : List Value) (n k : Nat)
    (hu : P.underlying dT = some (.slice elem)) (hi : P.info? elem = some i) (hk : i.size = k) (hn : Nat.min sLen dLen = n) (hg : w.heap[g]? = some (.cells cur t (0, 0))) (hl : cs.length = n * k)
    (hsrc : ∀ j v, cs[j]? = some v → w.cell? (a.add j) = some v) (hfit : o + cs.length ≤ cur.size) (h1 : ∀ v ∈ cs, v.oneCell' = true) :
    (Builtin.copy_ #[dT, sT] ty #[.slice (some ⟨g, o, none⟩) dLen dCap, .slice (some a) sLen sCap]).run P w = .ok (goInt n) (w.setRow g (cur.toList.take o ++ cs ++ cur.toList.drop (o + cs.length)).toArray) := by
  have hld := run_loadCells_list (P := P) w a cs hsrc
  have hst := run_storeCells_at P g o t cs 0 cur w hg (by simpa using hfit) h1
  rw [hl] at hld
  simp [Builtin.copy_, run_underlying hu, Builtin.lenOf, Builtin.firstCells, sizeOf, typeInfo, hi, hk, hn, hld, hst]

/-- The first m of N are laid. -/
def repN (ba : Int) (N m : Nat) : List Value := (List.replicate m (⟨0, ba⟩ : Ret)).flatMap Ret.cells ++ List.replicate (2 * (N - m)) (.int .i64 0)
theorem rep_flat_len (ba : Int) (m : Nat) : ((List.replicate m (⟨0, ba⟩ : Ret)).flatMap Ret.cells).length = 2 * m := by
  rw [List.length_flatMap]
  simp [Ret.cells]
  omega
theorem repN_len {ba : Int} {N m : Nat} (h : m ≤ N) : (repN ba N m).length = 2 * N := by
  unfold repN
  rw [List.length_append, rep_flat_len, List.length_replicate]
  omega
theorem repN_all (ba : Int) (N : Nat) : repN ba N N = (List.replicate N (⟨0, ba⟩ : Ret)).flatMap Ret.cells := by simp [repN]
/-- Laying j more of them. -/
theorem repN_more {ba : Int} {N m j : Nat} (h : m + j ≤ N) : (repN ba N m).take (m * 2) ++ (List.replicate j (⟨0, ba⟩ : Ret)).flatMap Ret.cells ++ (repN ba N m).drop (m * 2 + ((List.replicate j (⟨0, ba⟩ : Ret)).flatMap Ret.cells).length) = repN ba N (m + j) := by
  have e : m * 2 = ((List.replicate m (⟨0, ba⟩ : Ret)).flatMap Ret.cells).length := by rw [rep_flat_len]; omega
  unfold repN
  rw [e, List.take_left, List.drop_append, List.drop_of_length_le (by omega), List.nil_append, Nat.add_sub_cancel_left, rep_flat_len, List.drop_replicate, ← List.replicate_append_replicate, List.flatMap_append]
  congr 2
  omega
theorem repN_cell {ba : Int} {N m j i : Nat} (h : j ≤ m) {v : Value} (hv : ((List.replicate j (⟨0, ba⟩ : Ret)).flatMap Ret.cells)[i]? = some v) : (repN ba N m)[i]? = some v := by
  have hi := (List.getElem?_eq_some_iff.1 hv).1
  have e : m = j + (m - j) := by omega
  unfold repN
  rw [e, ← List.replicate_append_replicate, List.flatMap_append, List.append_assoc, List.getElem?_append_left hi]
  exact hv
theorem rep_cells (ba : Int) (j : Nat) : ∀ v ∈ (List.replicate j (⟨0, ba⟩ : Ret)).flatMap Ret.cells, v.oneCell' = true := fun v hv => by
  obtain ⟨r, hr, hv⟩ := List.mem_flatMap.1 hv
  rw [(List.mem_replicate.1 hr).2] at hv
  simp [Ret.cells] at hv
  rcases hv with rfl | rfl <;> rfl
theorem made_repN (ba : Int) (N : Nat) : madeCells #[Value.int .i64 0, Value.int .i64 0] (N * 2) = (repN ba N 0).toArray := by
  apply Array.ext'
  apply List.ext_getElem?
  intro i
  simp only [madeCells, repN]
  by_cases h : i < N * 2
  · rcases (by omega : i % 2 = 0 ∨ i % 2 = 1) with e | e <;> simp [e, h, List.getElem?_replicate] <;> omega
  · simp [h, List.getElem?_replicate]; omega

set_option maxRecDepth 100000 in
set_option maxHeartbeats 2000000 in
theorem repeat_any (gx N : Nat) (ba : Int) (w : World) (h0 : 1 ≤ N) (h1 : N ≤ 120) (hx : Blk w gx #[.int .i64 0, .int .i64 ba] 189) :
    Calls Tryz.prog 107 #[.slice (some ⟨gx, 0, none⟩) 1 1, .int .i64 N] w fun e w' => e = .returned (.slice (some ⟨w.heap.size, 0, none⟩) N N) ∧ Blk w' w.heap.size ((List.replicate N (⟨0, ba⟩ : Ret)).flatMap Ret.cells).toArray 189 ∧ Below w.heap.size w w' := by
  obtain ⟨i1, hi1, hy0, hy1, hy2⟩ := info_parts infoRetry
  have hmk : ∀ W : World, (Instr.makeSlice 135 (.int .i64 (N : Int)) (.int .i64 (N : Int))).run Tryz.prog W = .ok (.slice (some ⟨W.heap.size, 0, none⟩) N N) (W.alloc (.cells (repN ba N 0).toArray 189)) := fun W => by
    have := run_make (P := Tryz.prog) W 135 189 i1 _ Tryz.underlying135 hi1 hy0 .i64 .i64 N N (by omega) (by omega) (by rw [hy2]; omega) (by omega)
    rw [this]
    congr 3
    rw [← made_repN ba N, hy1]
    rfl
  have hxl : gx < w.heap.size := hx.lt
  have hcp0 : ∀ ty, (Builtin.copy_ #[135, 135] ty #[.slice (some ⟨w.heap.size, 0, none⟩) N N, .slice (some ⟨gx, 0, none⟩) 1 1]).run Tryz.prog (w.alloc (.cells (repN ba N 0).toArray 189)) = .ok (.int .i64 1) ((w.alloc (.cells (repN ba N 0).toArray 189)).setRow w.heap.size (repN ba N 1).toArray) := fun ty => by
    have := run_copy_many (P := Tryz.prog) (w.alloc (.cells (repN ba N 0).toArray 189)) 135 135 ty 189 i1 w.heap.size 0 N N ⟨gx, 0, none⟩ 1 1 (repN ba N 0).toArray 189 ((List.replicate 1 (⟨0, ba⟩ : Ret)).flatMap Ret.cells) 1 2 Tryz.underlying135 hi1 hy1 (Nat.min_eq_left h0) (Blk.new w _ _) (by rw [rep_flat_len]) (fun j v hv => ?_) (by rw [rep_flat_len]; simp [repN_len (show 0 ≤ N by omega)]; omega) (rep_cells ba 1)
    · rw [this]
      have e := repN_more (ba := ba) (N := N) (m := 0) (j := 1) (by omega)
      simp only [Nat.zero_mul, Nat.zero_add] at e
      rw [Nat.zero_add, e]
      rfl
    · have hj := (List.getElem?_eq_some_iff.1 hv).1
      rw [rep_flat_len] at hj
      rw [show (⟨gx, 0, none⟩ : Addr).add j = ⟨gx, j, none⟩ from by unfold Addr.add; split <;> simp_all]
      rw [(hx.alloc _).cell j]
      rcases (by omega : j = 0 ∨ j = 1) with rfl | rfl
      · simpa [Ret.cells] using hv
      · simpa [Ret.cells] using hv
  have H : ∀ w : World, Hid (Calls Tryz.prog 135 #[.int .u64 1, .int .u64 N] w fun e w' => e = .returned (.tuple #[.int .u64 0, .int .u64 N]) ∧ w = w') := fun w => by
    have := bitsMul_any 1 N (by omega) (by omega) w
    rw [show 1 * N / 18446744073709551616 = 0 by omega, show 1 * N % 18446744073709551616 = N by omega] at this
    exact this.mono (fun e w' h => ⟨h.1, h.2.symm⟩)
  have Hlay : Hid (∀ (W : World) (m : Nat), 1 ≤ m → m < N → Blk W w.heap.size (repN ba N m).toArray 189 → ∀ ty, (Builtin.copy_ #[135, 135] ty #[.slice (some ⟨w.heap.size, m * 2, none⟩) (N - m) (N - m), .slice (some ⟨w.heap.size, 0, none⟩) m N]).run Tryz.prog W = .ok (.int .i64 ((Nat.min m (N - m) : Nat) : Int)) (W.setRow w.heap.size (repN ba N (m + Nat.min m (N - m))).toArray)) := fun W m hm hmN hB ty => by
    have hmin : Nat.min m (N - m) ≤ N - m := Nat.min_le_right _ _
    have hmin2 : Nat.min m (N - m) ≤ m := Nat.min_le_left _ _
    have := run_copy_many (P := Tryz.prog) W 135 135 ty 189 i1 w.heap.size (m * 2) (N - m) (N - m) ⟨w.heap.size, 0, none⟩ m N (repN ba N m).toArray 189 ((List.replicate (Nat.min m (N - m)) (⟨0, ba⟩ : Ret)).flatMap Ret.cells) (Nat.min m (N - m)) 2 Tryz.underlying135 hi1 hy1 rfl hB (by rw [rep_flat_len]; omega) (fun j v hv => ?_) (by rw [rep_flat_len]; simp [repN_len (show m ≤ N by omega)]; omega) (rep_cells ba _)
    · rw [this]
      have e := repN_more (ba := ba) (N := N) (m := m) (j := Nat.min m (N - m)) (by omega)
      rw [e]
      rfl
    · rw [show (⟨w.heap.size, 0, none⟩ : Addr).add j = ⟨w.heap.size, j, none⟩ from by unfold Addr.add; split <;> simp_all]
      rw [hB.cell j]
      have := repN_cell (N := N) hmin2 hv
      simpa using this
  have hW1 : Blk ((w.alloc (.cells (repN ba N 0).toArray 189)).setRow w.heap.size (repN ba N 1).toArray) w.heap.size (repN ba N 1).toArray 189 := setRow_heap _ _ _ _ _ _ (Blk.new w (repN ba N 0).toArray 189)
  have hB1 : Below w.heap.size w ((w.alloc (.cells (repN ba N 0).toArray 189)).setRow w.heap.size (repN ba N 1).toArray) := by
    have h2 : Below w.heap.size w (w.alloc (.cells (repN ba N 0).toArray 189)) := (Below.refl _ _).alloc (Nat.le_refl _) _
    exact h2.trans ⟨rfl, rfl, rfl, by simp [World.setRow], fun k hk => setRow_other _ _ k _ (by omega)⟩
  generalize hZ : ((w.alloc (.cells (repN ba N 0).toArray 189)).setRow w.heap.size (repN ba N 1).toArray) = Z at *
  have HW1 := hide hW1
  have HB1 := hide hB1
  have hN0 : ¬ ((N : Int) < 0) := by omega
  clear hW1 hB1 hZ hx
  go_enter Tryz.func107, Tryz.ntmps107
  go_wp2_with fail
  refine (H _).out.mono ?_
  rintro _ _ ⟨rfl, rfl⟩
  go_wp2_with fail
  go_loopw [8] (fun i wr => ∃ m : Nat, 1 ≤ m ∧ m ≤ N ∧ i = .int .i64 m ∧ Blk wr w.heap.size (repN ba N m).toArray 189 ∧ Below w.heap.size w wr) (fun i _ => N - (intOf i).toNat)
  case atStart => exact ⟨1, Nat.le_refl _, h0, rfl, HW1.out, HB1.out⟩
  case round =>
    clear HW1 HB1 hmk hcp0
    obtain ⟨m, hm1, hmN, rfl, hB, hnx⟩ := hrel
    by_cases hlt : m < N
    · have hltI : (m : Int) < (N : Int) := by omega
      have hc0 := Hlay.out wr m hm1 hlt hB
      have hc1 := Hlay.out wr.drew m hm1 hlt hB
      obtain ⟨j, hj⟩ : ∃ j, Nat.min m (N - m) = j := ⟨_, rfl⟩
      rw [hj] at hc0 hc1
      have hj1 : 1 ≤ j := by rw [← hj]; exact Nat.le_min.2 ⟨hm1, by omega⟩
      have hj2 : m + j ≤ N := by have : Nat.min m (N - m) ≤ N - m := Nat.min_le_right _ _; omega
      have hm0I : (0 : Int) ≤ (m : Int) := by omega
      have hmNI : (m : Int) ≤ (N : Int) := by omega
      have HR : Hid (∀ W : World, W = wr ∨ W = wr.drew → Blk (W.setRow w.heap.size (repN ba N (m + j)).toArray) w.heap.size (repN ba N (m + j)).toArray 189 ∧ Below w.heap.size w (W.setRow w.heap.size (repN ba N (m + j)).toArray)) := fun W hW => by
        have h2 : Blk W w.heap.size (repN ba N m).toArray 189 ∧ Below w.heap.size w W := by
          rcases hW with rfl | rfl
          · exact ⟨hB, hnx⟩
          · exact ⟨hB, hnx.drew⟩
        exact ⟨setRow_heap _ _ _ _ _ _ h2.1, h2.2.trans ⟨rfl, rfl, rfl, by simp [World.setRow], fun k hk => setRow_other _ _ k _ (by omega)⟩⟩
      clear hj hB hnx
      go_wp2_with fail
      go_region
      all_goals
        go_wp2_with fail
        go_roundw
        case rel =>
          refine ⟨m + j, by omega, hj2, by go_num, ?_⟩
          first
            | exact HR.out wr.drew (Or.inr rfl)
            | exact HR.out wr (Or.inl rfl)
            | exact ⟨(HR.out wr (Or.inl rfl)).1, (HR.out wr (Or.inl rfl)).2.drew⟩
        case measure => simp [intOf]; omega
    · obtain rfl : N = m := by omega
      have HB := hide hB
      have Hnx := hide hnx
      have hltI : ¬ ((N : Int) < (N : Int)) := by omega
      clear hB hnx
      go_wp2_with fail
      go_ret
      have h3 := HB.out
      rw [repN_all] at h3
      exact ⟨rfl, h3, Hnx.out⟩
end Go.Proofs.YtojpjaifhjigfaaGreatDoor

/- replay: what a log tells is done on a new agent. -/
namespace Go.Proofs.YtojpjaifhjigfaaGreatDoor
open Go.RowKit Go.Maps

theorem repeat_all (gx N : Nat) (ba : Int) (w : World) (h1 : N ≤ 120) (hx : Blk w gx #[.int .i64 0, .int .i64 ba] 189) :
    Calls Tryz.prog 107 #[.slice (some ⟨gx, 0, none⟩) 1 1, .int .i64 N] w fun e w' => e = .returned (.slice (some ⟨w.heap.size, 0, none⟩) N N) ∧ Blk w' w.heap.size ((List.replicate N (⟨0, ba⟩ : Ret)).flatMap Ret.cells).toArray 189 ∧ Below w.heap.size w w' := by
  by_cases h0 : N = 0
  · subst h0
    refine (repeat_zero gx w).mono ?_
    rintro e w' ⟨rfl, rfl⟩
    exact ⟨rfl, Blk.new w _ _, (Below.refl _ _).alloc (Nat.le_refl _) _⟩
  · exact repeat_any gx N ba w (by omega) h1 hx

/-- Whether a record may stand behind n bytes. -/
def mayStand (by' n : Nat) : Bool := by' == 43 || (by' == 61 && n == 0)
set_option maxHeartbeats 1000000 in
theorem mayStand_any (by' n : Nat) (w : World) : Calls Tryz.prog 104 #[.int .i64 by', .int .i64 n] w fun e w' => e = .returned (.bool (mayStand by' n)) ∧ w = w' := by
  unfold mayStand
  by_cases h1 : by' = 43
  · subst h1
    go_enter Tryz.func104, Tryz.ntmps104
    go_wp2_with fail
    go_ret
    exact ⟨rfl, rfl⟩
  · have h1I : ¬ ((by' : Int) = 43) := by omega
    have e1 : (by' == 43) = false := by simp [h1]
    rw [e1, Bool.false_or]
    by_cases h2 : by' = 61
    · subst h2
      by_cases h3 : n = 0
      · subst h3
        go_enter Tryz.func104, Tryz.ntmps104
        go_wp2_with fail
        go_ret
        exact ⟨rfl, rfl⟩
      · have h3I : ¬ ((n : Int) = 0) := by omega
        have e3 : (n == 0) = false := by simp [h3]
        rw [e3]
        go_enter Tryz.func104, Tryz.ntmps104
        go_wp2_with fail
        go_ret
        exact ⟨by first | rfl | simp [h3], rfl⟩
    · have h2I : ¬ ((by' : Int) = 61) := by omega
      have e2 : (by' == 61) = false := by simp [h2]
      rw [e2]
      go_enter Tryz.func104, Tryz.ntmps104
      go_wp2_with fail
      go_ret
      exact ⟨by first | rfl | simpa using h1I, rfl⟩

/-- What a log makes of an agent, and how much of it is whole; none: it is no log. -/
inductive Replays : Ag → Nat → List UInt8 → Option (Ag × Nat) → Prop
  | done (M : Ag) (n : Nat) : Replays M n [] (some (M, n))
  | cut (M : Ag) (n : Nat) (rest : List UInt8) : rest ≠ [] → (Rd.record ⟨rest, false⟩).2.2.short = true → (Rd.record ⟨rest, false⟩).1 = 43 → Replays M n rest (some (M, n))
  | stand (M : Ag) (n : Nat) (rest : List UInt8) : rest ≠ [] → ¬ ((Rd.record ⟨rest, false⟩).2.2.short = true ∧ (Rd.record ⟨rest, false⟩).1 = 43) → mayStand (Rd.record ⟨rest, false⟩).1 n = false → Replays M n rest none
  | none (M : Ag) (n : Nat) (rest : List UInt8) : rest ≠ [] → ¬ ((Rd.record ⟨rest, false⟩).2.2.short = true ∧ (Rd.record ⟨rest, false⟩).1 = 43) → mayStand (Rd.record ⟨rest, false⟩).1 n = true → M.redo (Rd.record ⟨rest, false⟩).2.1 = .none → Replays M n rest .none
  | quota (M : Ag) (n : Nat) (rest : List UInt8) (M' : Ag) : rest ≠ [] → ¬ ((Rd.record ⟨rest, false⟩).2.2.short = true ∧ (Rd.record ⟨rest, false⟩).1 = 43) → mayStand (Rd.record ⟨rest, false⟩).1 n = true → M.redo (Rd.record ⟨rest, false⟩).2.1 = some M' → ¬ ((Rd.record ⟨rest, false⟩).2.1 ≠ [] ∧ M'.QuotaOk) → Replays M n rest .none
  | step (M : Ag) (n : Nat) (rest : List UInt8) (M' : Ag) (r : Option (Ag × Nat)) : rest ≠ [] → ¬ ((Rd.record ⟨rest, false⟩).2.2.short = true ∧ (Rd.record ⟨rest, false⟩).1 = 43) → mayStand (Rd.record ⟨rest, false⟩).1 n = true → M.redo (Rd.record ⟨rest, false⟩).2.1 = some M' → ((Rd.record ⟨rest, false⟩).2.1 ≠ [] ∧ M'.QuotaOk) → Replays M' (n + (rest.length - (Rd.record ⟨rest, false⟩).2.2.rest.length)) (Rd.record ⟨rest, false⟩).2.2.rest r → Replays M n rest r

theorem record_len (x : UInt8) (l : List UInt8) : (Rd.record ⟨x :: l, false⟩).2.2.rest.length ≤ l.length := by
  unfold Rd.record
  exact Nat.le_trans (piece_len _ _) (Nat.le_trans (number_len _) (Nat.le_trans (number_len _) (Nat.le_refl _)))
/-- Once short, nothing is left. -/
def Rd.Ok (r : Rd) : Prop := r.short = true → r.rest = []
theorem Rd.Ok.number {r : Rd} (h : r.Ok) : r.number.2.Ok := by
  unfold Rd.number
  split
  · exact fun _ => rfl
  · rename_i x l e
    intro hs
    have := h hs
    rw [e] at this
    cases this
theorem Rd.Ok.piece {r : Rd} (h : r.Ok) (n : Nat) (hs : (r.piece n).2.short = true) : (r.piece n).1 = [] := by
  unfold Rd.piece at hs ⊢
  split
  · rfl
  · rename_i hl
    rw [if_neg hl] at hs
    rw [h hs]
    simp
theorem record_short (rest : List UInt8) (h : (Rd.record ⟨rest, false⟩).2.2.short = true) : (Rd.record ⟨rest, false⟩).2.1 = [] := by
  have h0 : Rd.Ok ⟨rest, false⟩ := fun e => by cases e
  exact Rd.Ok.piece h0.number.number.number _ h
theorem RInv.redoF {n : Nat} : ∀ {M M' : Ag} {rest : List UInt8}, RInv M → Go.Proofs.YtojpjaifhjigfaaGreatDoor.redoF n M rest = some M' → RInv M' := by
  induction n with
  | zero =>
    intro M M' rest h e
    unfold Go.Proofs.YtojpjaifhjigfaaGreatDoor.redoF at e
    split at e
    · cases e; exact h
    · cases e
  | succ n ih =>
    intro M M' rest h e
    unfold Go.Proofs.YtojpjaifhjigfaaGreatDoor.redoF at e
    split at e
    · cases e; exact h
    · split at e
      · cases e
      · rename_i hc
        simp only [Bool.or_eq_true, Bool.not_eq_true', not_or, Bool.not_eq_true, Bool.not_eq_false] at hc
        exact ih (h.played (event_form _) hc.2) e
theorem RInv.redo {M M' : Ag} {told : List UInt8} (h : RInv M) (e : M.redo told = some M') : RInv M' := RInv.redoF h e

/-- The agent behind replay. -/
def Ag.reborn (M : Ag) (l : List UInt8) : Ag := { M with log := l, rt := List.replicate M.bs.length ⟨0, M.c.ba⟩ }
theorem reborn_step {w0 wb : World} {L : Labs} {who g gR n : Nat} {M : Ag} {ba : Int} (hA : AgentAt w0 L who g M) (hb : Below w0.heap.size w0 wb) (hgR : w0.heap.size ≤ gR) (hn : n ≤ 120) (hR : Blk wb gR ((List.replicate n (⟨0, ba⟩ : Ret)).flatMap Ret.cells).toArray 189) :
    Turned w0 L who g { M with rt := List.replicate n ⟨0, ba⟩ } (wb.setCell ⟨g, 17, none⟩ (.slice (some ⟨gR, 0, none⟩) n n)) := by
  obtain ⟨bq, bm, cn, tv, dv, nv, rv, ov, hA⟩ := hA
  have s2 : Step (fun _ => False) L w0 (lay L gR (some (who, .rt))) wb := Step.of_below' hb (lay_below (Or.inr hgR))
  have b1 := hA.blk.keep s2 (fun h => h)
  have hlen := rep_flat_len ba n
  have hr2 : RowAt wb (lay L gR (some (who, .rt))) (some (who, .rt)) 189 2 (.slice (some ⟨gR, 0, none⟩) n n) n ((List.replicate n (⟨0, ba⟩ : Ret)).flatMap Ret.cells) := by
    refine ⟨⟨by rw [hlen]; omega, Or.inr ⟨gR, n, _, rfl, Nat.zero_le _, hR, Nat.le_refl _, by unfold maxLen; omega, by rw [List.size_toArray, hlen]; omega, ?_⟩⟩, fun g' hg' => ?_⟩
    · rw [List.take_of_length_le (by show ((List.replicate n (⟨0, ba⟩ : Ret)).flatMap Ret.cells).length ≤ n * 2; rw [hlen]; omega)]
    · obtain rfl : gR = g' := by simpa [Value.ownBlock] using hg'
      exact lay_same _ _ _
  have s3 : Step (fun l => l = some (who, .ag)) (lay L gR (some (who, .rt))) wb (lay L gR (some (who, .rt))) (wb.setCell ⟨g, 17, none⟩ (.slice (some ⟨gR, 0, none⟩) n n)) := Step.setCell _ _ _ _ b1.2
  refine ⟨lay L gR (some (who, .rt)), ⟨bq, bm, cn, tv, dv, nv, .slice (some ⟨gR, 0, none⟩) n n, ov, ?_, ?_, ?_, ?_, ?_, ?_, ?_, ?_⟩, (s2.mono (fun l h => h.elim)).trans (s3.mono (fun l h => ⟨_, h⟩))⟩
  · refine ⟨?_, b1.2⟩
    rw [← agCells_set17 bq bm tv dv nv rv]
    exact b1.1.set 17 _
  · exact (hA.tk.keep s2 (fun h => h)).keep s3 (by simp)
  · exact (hA.qs.keep s2 (fun h => h) (fun _ _ h => h)).keep s3 (by simp) (by simp)
  · exact (hA.dd.keep s2 (fun h => h)).keep s3 (by simp)
  · exact (hA.nm.keep s2 (fun h => h)).keep s3 (by simp)
  · have := hr2.keep s3 (by simp)
    simpa using this
  · exact (hA.ol.keep s2 (fun h => h) (fun _ h => h) (fun _ h => h)).keep s3 (by simp) (by simp) (by simp)
  · exact (hA.cm.keep s2 (fun h => h)).keep s3 (by simp)

/-- What replay brings. -/
def Replayed (w : World) (L : Labs) (who g : Nat) (M : Ag) (log : List UInt8) (e : Ending) (w' : World) : Prop :=
  ∃ res, Replays M 0 log res ∧ (res = none → e = .returned (.bool false) ∧ ∃ M', Turned w L who g M' w') ∧ (∀ M' n, res = some (M', n) → e = .returned (.bool true) ∧ Turned w L who g (M'.reborn (log.take n)) w')

set_option maxRecDepth 100000 in
set_option maxHeartbeats 8000000 in
theorem replay_any (A : Nat → Addr) (L : Labs) (who g : Nat) (M : Ag) (log : List UInt8) (w : World) (hE : ErrsAt w L A) (hA : AgentAt w L who g M) (h : RInv M) (hlog : log.length ≤ 100000000000000) :
    Calls Tryz.prog 64 #[.pointer (some ⟨g, 0, none⟩), encStr log] w fun e w' => Replayed w L who g M log e w' := by
  have HE := hide hE
  have HA := hide hA
  have H := hide h
  have hn : ¬ ofP who none := fun ⟨q, e⟩ => by cases e
  clear hE hA h
  go_enter Tryz.func64, Tryz.ntmps64
  go_wp2_with fail
  go_loopg [5, 6] log.length (fun m s5 s6 wr => ∃ (gr n : Nat) (rest : List UInt8) (Mc : Ag) (L1 : Labs), m = rest.length ∧ s5 = .int .i64 n ∧ s6 = .pointer (some ⟨gr, 0, none⟩) ∧ n + rest.length = log.length ∧ w.heap.size ≤ gr ∧ BlkAt wr L1 none gr (Rd.cells ⟨rest, false⟩) 182 ∧ AgentAt wr L1 who g Mc ∧ RInv Mc ∧ (∀ res, Replays Mc n rest res → Replays M 0 log res) ∧ Step (ofP who) L w L1 wr)
  case atStart =>
    refine ⟨w.heap.size, 0, log, M, clip L w.heap.size, rfl, rfl, rfl, by omega, Nat.le_refl _, ⟨Blk.new w _ _, clip_none L (Nat.le_refl _)⟩, ?_, H.out, fun res h => h, (Step.clipped L w).trans (Step.alloc _ w _)⟩
    exact HA.out.keep ((Step.clipped (p := fun _ => False) L w).trans (Step.alloc _ w _)) (fun _ h => h)
  case round =>
    obtain ⟨gr, n, rest, Mc, L1, rfl, rfl, rfl, hnl, hge, hR, hAc, hIc, hrep, hSc⟩ := hrel
    have c0 : wr.cell? ⟨gr, 0, none⟩ = some (encStr rest) := hR.1.cell 0
    have HR := hide hR
    have HAc := hide hAc
    have HIc := hide hIc
    have Hrep := hide hrep
    have HSc := hide hSc
    clear hR hAc hIc hrep hSc
    cases rest with
    | nil =>
      have HRes : Hid (Replays M 0 log (some (Mc, n))) := Hrep.out _ (Replays.done Mc n)
      have hnle : (n : Int) ≤ (log.length : Int) := by omega
      have hn0 : (0 : Int) ≤ (n : Int) := by omega
      clear Hrep HR HA H HE
      have hAg := HAc.out
      have hgl : g < wr.heap.size := World.block_lt_of_cell? wr _ (agent_log hAg)
      have HCl := hide (fun (W : World) => strClone_any ⟨(log.take n).toArray⟩ W (by simp [ByteArray.size]; omega))
      have h120 := HIc.out.b120
      clear hAg
      go_wp2_with fail
      rw [enc_take]
      refine (HCl.out _).mono ?_
      rintro e w1 ⟨rfl, hb1⟩
      have hA1 := HAc.out.keep (Step.of_below (p := fun _ => False) (L := L1) hb1) (fun _ h => h)
      have f3 := agent_frozen hA1 3
      have d3 := agent_log hA1
      have HA1 := hide hA1
      have HS1' : Hid (Step (ofP who) L w L1 w1) := HSc.out.trans (Step.of_below hb1)
      have HV0 : Hid (∃ (L2 : Labs), AgentAt (w1.setCell ⟨g, 3, none⟩ (encStr (log.take n))) L2 who g { Mc with log := log.take n } ∧ Step (ofP who) L w L2 (w1.setCell ⟨g, 3, none⟩ (encStr (log.take n)))) := by
        obtain ⟨L2, q1, q2⟩ := logged_step HA1.out (log.take n)
        exact ⟨L2, q1, HS1'.out.trans q2⟩
      clear hb1 hA1 HAc HSc
      generalize hlt : log.take n = lt at *
      unfold encStr at *
      go_wp2_with fail
      generalize hV : w1.setCell ⟨g, 3, none⟩ _ = V at *
      obtain ⟨L2, hA2, hS2⟩ := HV0.out
      have HA2 := hide hA2
      have HS2 := hide hS2
      obtain ⟨bq, bm, cn, tv, dv, nv, rv, ov, q⟩ := hA2
      obtain ⟨ta, tc, rfl, _⟩ := q.tk.shape
      have k0 : V.cell? ⟨g, 0, none⟩ = some (.slice ta Mc.bs.length tc) := q.blk.1.cell 0
      have k8 : V.cell? ⟨g, 8, none⟩ = some (.int .i64 Mc.c.ba) := q.blk.1.cell 8
      have k17 : V.cell? ⟨g, 17, none⟩ = some rv := q.blk.1.cell 17
      have f17 : V.frozen? ⟨g, 17, none⟩ = false := q.blk.1.frozen 17
      have hgV : g < V.heap.size := q.blk.1.lt
      have HK := hide q.blk.1
      clear q hS2 hV HV0 HA1 HS1' f3 d3
      obtain ⟨nb, hnb⟩ : ∃ nb, Mc.bs.length = nb := ⟨_, rfl⟩
      obtain ⟨ba, hba⟩ : ∃ ba, Mc.c.ba = ba := ⟨_, rfl⟩
      have Hreb : Hid (∀ (w2 : World), Blk w2 (V.heap.size + 1) ((List.replicate nb (⟨0, ba⟩ : Ret)).flatMap Ret.cells).toArray 189 → Below V.heap.size V w2 → Turned w L who g (Mc.reborn lt) (w2.setCell ⟨g, 17, none⟩ (.slice (some ⟨V.heap.size + 1, 0, none⟩) nb nb))) := fun w2 h1 h2 => by
        obtain ⟨L3, q1, q2⟩ := reborn_step HA2.out h2 (Nat.le_succ _) (by omega) h1
        refine ⟨L3, ?_, HS2.out.trans q2⟩
        unfold Ag.reborn
        rw [hnb, hba]
        exact q1
      have HRp : Hid (∀ (W : World), W = (V.alloc (.cells #[.int .i64 0, .int .i64 ba] 189)).drew ∨ W = V.drew.alloc (.cells #[.int .i64 0, .int .i64 ba] 189) → Calls Tryz.prog 107 #[.slice (some ⟨V.heap.size, 0, none⟩) 1 1, .int .i64 nb] W fun e w' => e = .returned (.slice (some ⟨V.heap.size + 1, 0, none⟩) nb nb) ∧ Blk w' (V.heap.size + 1) ((List.replicate nb (⟨0, ba⟩ : Ret)).flatMap Ret.cells).toArray 189 ∧ Below V.heap.size V w') := fun W hW => by
        have hz : W.heap.size = V.heap.size + 1 := by
          rcases hW with rfl | rfl
          · exact World.size_alloc V _
          · exact World.size_alloc V.drew _
        have hx : Blk W V.heap.size #[.int .i64 0, .int .i64 ba] 189 := by
          rcases hW with rfl | rfl
          · exact Blk.new V _ _
          · exact Blk.new V.drew _ _
        have hbW : Below V.heap.size V W := by
          rcases hW with rfl | rfl
          · exact ((Below.refl _ _).alloc (Nat.le_refl _) _).drew
          · exact ((Below.refl V.heap.size V).drew).alloc (Nat.le_refl _) _
        refine (repeat_all V.heap.size nb ba W (by omega) hx).mono ?_
        rintro e w' ⟨rfl, h1, h2⟩
        rw [hz] at h1 h2 ⊢
        exact ⟨rfl, h1, hbW.trans (h2.mono (by omega))⟩
      rw [hnb] at k0
      rw [hba] at k8
      have n0 := World.new_ne V ⟨g, 0, none⟩ k0
      have n8 := World.new_ne V ⟨g, 8, none⟩ k8
      have n17 := World.new_ne V ⟨g, 17, none⟩ k17
      have HC0 := hide k0
      have HC8 := hide k8
      have HC17 := hide k17
      have HKc : Hid (∀ w2, Below V.heap.size V w2 → w2.cell? ⟨g, 0, none⟩ = some (.slice ta nb tc) ∧ w2.cell? ⟨g, 8, none⟩ = some (.int .i64 ba) ∧ w2.cell? ⟨g, 17, none⟩ = some rv ∧ w2.frozen? ⟨g, 17, none⟩ = false ∧ (∀ v, (w2.setCell ⟨g, 17, none⟩ v).cell? ⟨g, 0, none⟩ = some (.slice ta nb tc)) ∧ ∀ v, (w2.setCell ⟨g, 17, none⟩ v).cell? ⟨g, 8, none⟩ = some (.int .i64 ba)) := fun w2 hb => by
        have hB := HK.out.below hb hgV
        have z0 := (hb.cell (p := ⟨g, 0, none⟩) hgV).trans HC0.out
        have z8 := (hb.cell (p := ⟨g, 8, none⟩) hgV).trans HC8.out
        refine ⟨z0, z8, (hb.cell (p := ⟨g, 17, none⟩) hgV).trans HC17.out, hB.frozen 17, fun v => ?_, fun v => ?_⟩
        · rw [(hB.set 17 v).cell 0, ← z0, hB.cell 0]
          simp
        · rw [(hB.set 17 v).cell 8, ← z8, hB.cell 8]
          simp
      clear hnb hba HK HC0 HC8 HC17 HA2 HS2
      go_region_held3 (fun w' => w'.cell? ⟨g, 0, none⟩ = some (.slice ta nb tc) ∧ w'.cell? ⟨g, 8, none⟩ = some (.int .i64 ba)) (go_keep)
        (first
          | (go_at_call 107; refine (HRp.out _ (by first | exact Or.inl rfl | exact Or.inr rfl)).mono ?_; rintro e w2 ⟨rfl, hr2, hb2⟩; obtain ⟨z0, z8, z17, zf, zz0, zz8⟩ := HKc.out w2 hb2; have HT2 := hide (Hreb.out w2 hr2 hb2); clear hr2 hb2))
      all_goals
        go_wp2_with fail
        go_ret
        refine ⟨some (Mc, n), HRes.out, (fun h => (by cases h)), fun M' n' e => ?_⟩
        cases e
        rw [hlt]
        exact ⟨rfl, HT2.out⟩
    | cons x l =>
      have HRec := hide (rdRecord_any gr ⟨x :: l, false⟩ wr HR.out.1)
      have hlen := record_len x l
      have Hcut : Hid ((Rd.record ⟨x :: l, false⟩).2.2.short = true → (Rd.record ⟨x :: l, false⟩).1 = 43 → Replays M 0 log (some (Mc, n))) := fun h1 h2 => Hrep.out _ (Replays.cut Mc n _ (by simp) h1 h2)
      have Hstand : Hid (¬ ((Rd.record ⟨x :: l, false⟩).2.2.short = true ∧ (Rd.record ⟨x :: l, false⟩).1 = 43) → mayStand (Rd.record ⟨x :: l, false⟩).1 n = false → Replays M 0 log none) := fun h1 h2 => Hrep.out _ (Replays.stand Mc n _ (by simp) h1 h2)
      have Hnone : Hid (¬ ((Rd.record ⟨x :: l, false⟩).2.2.short = true ∧ (Rd.record ⟨x :: l, false⟩).1 = 43) → mayStand (Rd.record ⟨x :: l, false⟩).1 n = true → Mc.redo (Rd.record ⟨x :: l, false⟩).2.1 = none → Replays M 0 log none) := fun h1 h2 h3 => Hrep.out _ (Replays.none Mc n _ (by simp) h1 h2 h3)
      have Hquota : Hid (∀ M', ¬ ((Rd.record ⟨x :: l, false⟩).2.2.short = true ∧ (Rd.record ⟨x :: l, false⟩).1 = 43) → mayStand (Rd.record ⟨x :: l, false⟩).1 n = true → Mc.redo (Rd.record ⟨x :: l, false⟩).2.1 = some M' → ¬ ((Rd.record ⟨x :: l, false⟩).2.1 ≠ [] ∧ M'.QuotaOk) → Replays M 0 log none) := fun M' h1 h2 h3 h4 => Hrep.out _ (Replays.quota Mc n _ M' (by simp) h1 h2 h3 h4)
      have Hstep : Hid (∀ M' r, ¬ ((Rd.record ⟨x :: l, false⟩).2.2.short = true ∧ (Rd.record ⟨x :: l, false⟩).1 = 43) → mayStand (Rd.record ⟨x :: l, false⟩).1 n = true → Mc.redo (Rd.record ⟨x :: l, false⟩).2.1 = some M' → ((Rd.record ⟨x :: l, false⟩).2.1 ≠ [] ∧ M'.QuotaOk) → Replays M' (n + ((x :: l).length - (Rd.record ⟨x :: l, false⟩).2.2.rest.length)) (Rd.record ⟨x :: l, false⟩).2.2.rest r → Replays M 0 log r) := fun M' r h1 h2 h3 h4 h5 => Hrep.out _ (Replays.step Mc n _ M' r (by simp) h1 h2 h3 h4 h5)
      have Hshort := hide (record_short (x :: l))
      generalize (Rd.record ⟨x :: l, false⟩) = rc at *
      obtain ⟨by', told, rd⟩ := rc
      obtain ⟨rest2, short⟩ := rd
      simp only at HRec hlen Hcut Hstand Hnone Hquota Hstep Hshort
      have hgrl : gr < wr.heap.size := HR.out.1.lt
      clear Hrep
      go_wp2_with fail
      refine HRec.out.mono ?_
      rintro e w2 ⟨rfl, hR2, hg2⟩
      have hS2 : Step (fun q => q = none) L1 wr (clip L1 wr.heap.size) w2 := (Step.clipped L1 wr).trans (Step.of_grown hg2 (fun j hj => by cases hj; rw [clip, if_pos hgrl]; exact HR.out.2) (fun _ _ => rfl))
      have hA2 : AgentAt w2 (clip L1 wr.heap.size) who g Mc := HAc.out.keep hS2 (fun q h => by cases h)
      have hL2 : clip L1 wr.heap.size gr = none := by rw [clip, if_pos hgrl]; exact HR.out.2
      have hSw : Step (ofP who) L w (clip L1 wr.heap.size) w2 := HSc.out.upon hg2 hge (fun k hk => by rw [clip, if_pos (Nat.lt_of_lt_of_le hk HSc.out.size)])
      generalize clip L1 wr.heap.size = L2 at *
      have HA2 := hide hA2
      have HR2 : Hid (BlkAt w2 L2 none gr (Rd.cells ⟨rest2, short⟩) 182) := ⟨hR2, hL2⟩
      have HSw := hide hSw
      have d1 : w2.cell? ⟨gr, 1, none⟩ = some (.bool short) := hR2.cell 1
      clear hA2 hR2 hL2 hSw hS2 hg2 HRec HAc HSc HR c0 hgrl
      by_cases hsc : short = true ∧ by' = 43
      · obtain ⟨rfl, rfl⟩ := hsc
        have HRes : Hid (Replays M 0 log (some (Mc, n))) := Hcut.out rfl rfl
        have hnle : (n : Int) ≤ (log.length : Int) := by omega
        have hn0 : (0 : Int) ≤ (n : Int) := by omega
        clear Hcut Hstand Hnone Hquota Hstep HA H HE HR2
        have HAc : Hid (AgentAt w2 L2 who g Mc) := HA2.out
        have HSc : Hid (Step (ofP who) L w L2 w2) := HSw.out
        clear HA2 HSw
        have hAg := HAc.out
        have hgl : g < w2.heap.size := World.block_lt_of_cell? w2 _ (agent_log hAg)
        have HCl := hide (fun (W : World) => strClone_any ⟨(log.take n).toArray⟩ W (by simp [ByteArray.size]; omega))
        have h120 := HIc.out.b120
        clear hAg
        go_wp2_with fail
        rw [enc_take]
        refine (HCl.out _).mono ?_
        rintro e w1 ⟨rfl, hb1⟩
        have hA1 := HAc.out.keep (Step.of_below (p := fun _ => False) (L := L2) hb1) (fun _ h => h)
        have f3 := agent_frozen hA1 3
        have d3 := agent_log hA1
        have HA1 := hide hA1
        have HS1' : Hid (Step (ofP who) L w L2 w1) := HSc.out.trans (Step.of_below hb1)
        have HV0 : Hid (∃ (L2 : Labs), AgentAt (w1.setCell ⟨g, 3, none⟩ (encStr (log.take n))) L2 who g { Mc with log := log.take n } ∧ Step (ofP who) L w L2 (w1.setCell ⟨g, 3, none⟩ (encStr (log.take n)))) := by
          obtain ⟨L5, q1, q2⟩ := logged_step HA1.out (log.take n)
          exact ⟨L5, q1, HS1'.out.trans q2⟩
        clear hb1 hA1 HAc HSc
        generalize hlt : log.take n = lt at *
        unfold encStr at *
        go_wp2_with fail
        generalize hV : w1.setCell ⟨g, 3, none⟩ _ = V at *
        obtain ⟨L5, hA2, hS2⟩ := HV0.out
        have HA2 := hide hA2
        have HS2 := hide hS2
        obtain ⟨bq, bm, cn, tv, dv, nv, rv, ov, q⟩ := hA2
        obtain ⟨ta, tc, rfl, _⟩ := q.tk.shape
        have k0 : V.cell? ⟨g, 0, none⟩ = some (.slice ta Mc.bs.length tc) := q.blk.1.cell 0
        have k8 : V.cell? ⟨g, 8, none⟩ = some (.int .i64 Mc.c.ba) := q.blk.1.cell 8
        have k17 : V.cell? ⟨g, 17, none⟩ = some rv := q.blk.1.cell 17
        have f17 : V.frozen? ⟨g, 17, none⟩ = false := q.blk.1.frozen 17
        have hgV : g < V.heap.size := q.blk.1.lt
        have HK := hide q.blk.1
        clear q hS2 hV HV0 HA1 HS1' f3 d3
        obtain ⟨nb, hnb⟩ : ∃ nb, Mc.bs.length = nb := ⟨_, rfl⟩
        obtain ⟨ba, hba⟩ : ∃ ba, Mc.c.ba = ba := ⟨_, rfl⟩
        have Hreb : Hid (∀ (w2 : World), Blk w2 (V.heap.size + 1) ((List.replicate nb (⟨0, ba⟩ : Ret)).flatMap Ret.cells).toArray 189 → Below V.heap.size V w2 → Turned w L who g (Mc.reborn lt) (w2.setCell ⟨g, 17, none⟩ (.slice (some ⟨V.heap.size + 1, 0, none⟩) nb nb))) := fun w2 h1 h2 => by
          obtain ⟨L3, q1, q2⟩ := reborn_step HA2.out h2 (Nat.le_succ _) (by omega) h1
          refine ⟨L3, ?_, HS2.out.trans q2⟩
          unfold Ag.reborn
          rw [hnb, hba]
          exact q1
        have HRp : Hid (∀ (W : World), W = (V.alloc (.cells #[.int .i64 0, .int .i64 ba] 189)).drew ∨ W = V.drew.alloc (.cells #[.int .i64 0, .int .i64 ba] 189) → Calls Tryz.prog 107 #[.slice (some ⟨V.heap.size, 0, none⟩) 1 1, .int .i64 nb] W fun e w' => e = .returned (.slice (some ⟨V.heap.size + 1, 0, none⟩) nb nb) ∧ Blk w' (V.heap.size + 1) ((List.replicate nb (⟨0, ba⟩ : Ret)).flatMap Ret.cells).toArray 189 ∧ Below V.heap.size V w') := fun W hW => by
          have hz : W.heap.size = V.heap.size + 1 := by
            rcases hW with rfl | rfl
            · exact World.size_alloc V _
            · exact World.size_alloc V.drew _
          have hx : Blk W V.heap.size #[.int .i64 0, .int .i64 ba] 189 := by
            rcases hW with rfl | rfl
            · exact Blk.new V _ _
            · exact Blk.new V.drew _ _
          have hbW : Below V.heap.size V W := by
            rcases hW with rfl | rfl
            · exact ((Below.refl _ _).alloc (Nat.le_refl _) _).drew
            · exact ((Below.refl V.heap.size V).drew).alloc (Nat.le_refl _) _
          refine (repeat_all V.heap.size nb ba W (by omega) hx).mono ?_
          rintro e w' ⟨rfl, h1, h2⟩
          rw [hz] at h1 h2 ⊢
          exact ⟨rfl, h1, hbW.trans (h2.mono (by omega))⟩
        rw [hnb] at k0
        rw [hba] at k8
        have n0 := World.new_ne V ⟨g, 0, none⟩ k0
        have n8 := World.new_ne V ⟨g, 8, none⟩ k8
        have n17 := World.new_ne V ⟨g, 17, none⟩ k17
        have HC0 := hide k0
        have HC8 := hide k8
        have HC17 := hide k17
        have HKc : Hid (∀ w2, Below V.heap.size V w2 → w2.cell? ⟨g, 0, none⟩ = some (.slice ta nb tc) ∧ w2.cell? ⟨g, 8, none⟩ = some (.int .i64 ba) ∧ w2.cell? ⟨g, 17, none⟩ = some rv ∧ w2.frozen? ⟨g, 17, none⟩ = false ∧ (∀ v, (w2.setCell ⟨g, 17, none⟩ v).cell? ⟨g, 0, none⟩ = some (.slice ta nb tc)) ∧ ∀ v, (w2.setCell ⟨g, 17, none⟩ v).cell? ⟨g, 8, none⟩ = some (.int .i64 ba)) := fun w2 hb => by
          have hB := HK.out.below hb hgV
          have z0 := (hb.cell (p := ⟨g, 0, none⟩) hgV).trans HC0.out
          have z8 := (hb.cell (p := ⟨g, 8, none⟩) hgV).trans HC8.out
          refine ⟨z0, z8, (hb.cell (p := ⟨g, 17, none⟩) hgV).trans HC17.out, hB.frozen 17, fun v => ?_, fun v => ?_⟩
          · rw [(hB.set 17 v).cell 0, ← z0, hB.cell 0]
            simp
          · rw [(hB.set 17 v).cell 8, ← z8, hB.cell 8]
            simp
        clear hnb hba HK HC0 HC8 HC17 HA2 HS2
        go_region_held3 (fun w' => w'.cell? ⟨g, 0, none⟩ = some (.slice ta nb tc) ∧ w'.cell? ⟨g, 8, none⟩ = some (.int .i64 ba)) (go_keep)
          (first
            | (go_at_call 107; refine (HRp.out _ (by first | exact Or.inl rfl | exact Or.inr rfl)).mono ?_; rintro e w2 ⟨rfl, hr2, hb2⟩; obtain ⟨z0, z8, z17, zf, zz0, zz8⟩ := HKc.out w2 hb2; have HT2 := hide (Hreb.out w2 hr2 hb2); clear hr2 hb2))
        all_goals
          go_wp2_with fail
          go_ret
          refine ⟨some (Mc, n), HRes.out, (fun h => (by cases h)), fun M' n' e => ?_⟩
          cases e
          rw [hlt]
          exact ⟨rfl, HT2.out⟩
      · have Hsc := hide hsc
        have HMs := hide (fun W => mayStand_any by' n W)
        have HRd := hide (fun (W : World) (hA : AgentAt W L2 who g Mc) (hS : Step (ofP who) L w L2 W) => redo_any A L2 who g Mc told W (HE.out.keep hS hn) hA HIc.out)
        have hcond : ∀ (t : Bool), short = t → (t = true → (by' : Int) ≠ 43) := fun t h1 h2 h3 => hsc ⟨h1.trans h2, by omega⟩
        unfold Redid at HRd
        generalize hms : mayStand by' n = ms at *
        have Hms := hide hms
        clear hms hsc
        cases short with
        | false =>
          clear hcond
          cases ms with
          | false =>
            have HRes : Hid (Replays M 0 log none) := Hstand.out Hsc.out rfl
            go_wp2_with fail
            refine (HMs.out _).mono ?_
            rintro _ _ ⟨rfl, rfl⟩
            go_wp2_with fail
            go_ret
            exact ⟨none, HRes.out, (fun _ => ⟨rfl, Mc, L2, HA2.out, HSw.out⟩), (fun M' n' e => (by cases e))⟩
          | true =>
            have HRes0 : Hid (Mc.redo told = none → Replays M 0 log none) := Hnone.out Hsc.out rfl
            have HResq : Hid (∀ M', Mc.redo told = some M' → ¬ (told ≠ [] ∧ M'.QuotaOk) → Replays M 0 log none) := fun M' => Hquota.out M' Hsc.out rfl
            have HRess : Hid (∀ M' r, Mc.redo told = some M' → (told ≠ [] ∧ M'.QuotaOk) → Replays M' (n + ((x :: l).length - rest2.length)) rest2 r → Replays M 0 log r) := fun M' r => Hstep.out M' r Hsc.out rfl
            have HRd2 := hide (HRd.out w2 HA2.out HSw.out)
            have HInv := hide (fun M' (e : Mc.redo told = some M') => HIc.out.redo e)
            clear Hcut Hstand Hnone Hquota Hstep HRd
            cases hrd : Mc.redo told with
            | none =>
              have HRes := hide (HRes0.out hrd)
              rw [hrd] at HRd2
              clear hrd HRes0 HResq HRess HInv
              go_wp2_with fail
              refine (HMs.out _).mono ?_
              rintro _ _ ⟨rfl, rfl⟩
              go_wp2_with fail
              refine HRd2.out.mono ?_
              rintro e w3 ⟨h1, _⟩
              obtain ⟨rfl, M3, hT3⟩ := h1 (by first | rfl | trivial)
              have HT3 := hide hT3
              clear h1 hT3
              go_wp2_with fail
              go_ret
              refine ⟨none, HRes.out, (fun _ => ⟨rfl, M3, ?_⟩), (fun M' n' e => (by cases e))⟩
              obtain ⟨L3, q1, q2⟩ := HT3.out
              exact ⟨L3, q1, HSw.out.trans q2⟩
            | some M3 =>
              have HResq' := hide (HResq.out M3 hrd)
              have HRess' := hide (fun r => HRess.out M3 r hrd)
              have HI3 := hide (HInv.out M3 hrd)
              rw [hrd] at HRd2
              clear hrd HRes0 HResq HRess HInv
              go_wp2_with fail
              refine (HMs.out _).mono ?_
              rintro _ _ ⟨rfl, rfl⟩
              go_wp2_with fail
              refine HRd2.out.mono ?_
              rintro e w3 ⟨_, h1⟩
              obtain ⟨⟨r, rfl, hr⟩, hT3⟩ := h1 M3 rfl
              obtain ⟨L3, hA3, hS3⟩ := hT3
              have HA3 := hide hA3
              have HS3 : Hid (Step (ofP who) L w L3 w3) := HSw.out.trans hS3
              have HR3 := hide (HR2.out.keep hS3 hn)
              have Hr := hide hr
              clear h1 hr hA3 hS3 d1
              cases r with
              | false =>
                have HRes : Hid (Replays M 0 log none) := HResq'.out (fun h => by have := Hr.out.2 h; cases this)
                go_wp2_with fail
                go_ret
                exact ⟨none, HRes.out, (fun _ => ⟨rfl, M3, L3, HA3.out, HS3.out⟩), (fun M' n' e => (by cases e))⟩
              | true =>
                have hyes := Hr.out.1 rfl
                have Hyes := hide hyes
                have k0 : w3.cell? ⟨gr, 0, none⟩ = some (encStr rest2) := HR3.out.1.cell 0
                have k1 : w3.cell? ⟨gr, 1, none⟩ = some (.bool false) := HR3.out.1.cell 1
                simp only [List.length_cons] at hnl
                obtain ⟨n', hn'⟩ : ∃ n', n' = n + ((x :: l).length - rest2.length) := ⟨_, rfl⟩
                have hn'' : n' + rest2.length = log.length := by rw [hn']; simp only [List.length_cons]; omega
                have hn'I : (log.length : Int) - (rest2.length : Int) = (n' : Int) := by omega
                have HRess'' : Hid (∀ r, Replays M3 n' rest2 r → Replays M 0 log r) := fun r h => HRess'.out r hyes (hn' ▸ h)
                clear hyes hn'
                go_wp2_with fail
                go_roundg (rest2.length)
                case measure => simp; omega
                case rel =>
                  have hz : w.heap.size ≤ w3.heap.size := HS3.out.size
                  refine ⟨w3.heap.size, n', rest2, M3, clip L3 w3.heap.size, rfl, ?_, rfl, hn'', hz, ⟨Blk.new w3 _ _, clip_none L3 (Nat.le_refl _)⟩, ?_, HI3.out, HRess''.out, HS3.out.trans ((Step.clipped L3 w3).trans (Step.alloc _ w3 _))⟩
                  · first | rfl | (rw [← hn'I])
                  · exact HA3.out.keep ((Step.clipped (p := fun _ => False) L3 w3).trans (Step.alloc _ w3 _)) (fun _ h => h)
        | true =>
          have hby : ¬ ((by' : Int) = 43) := hcond true rfl rfl
          clear hcond
          cases ms with
          | false =>
            have HRes : Hid (Replays M 0 log none) := Hstand.out Hsc.out rfl
            go_wp2_with fail
            refine (HMs.out _).mono ?_
            rintro _ _ ⟨rfl, rfl⟩
            go_wp2_with fail
            go_ret
            exact ⟨none, HRes.out, (fun _ => ⟨rfl, Mc, L2, HA2.out, HSw.out⟩), (fun M' n' e => (by cases e))⟩
          | true =>
            have HRes0 : Hid (Mc.redo told = none → Replays M 0 log none) := Hnone.out Hsc.out rfl
            have HResq : Hid (∀ M', Mc.redo told = some M' → ¬ (told ≠ [] ∧ M'.QuotaOk) → Replays M 0 log none) := fun M' => Hquota.out M' Hsc.out rfl
            have HRess : Hid (∀ M' r, Mc.redo told = some M' → (told ≠ [] ∧ M'.QuotaOk) → Replays M' (n + ((x :: l).length - rest2.length)) rest2 r → Replays M 0 log r) := fun M' r => Hstep.out M' r Hsc.out rfl
            have HRd2 := hide (HRd.out w2 HA2.out HSw.out)
            have HInv := hide (fun M' (e : Mc.redo told = some M') => HIc.out.redo e)
            clear Hcut Hstand Hnone Hquota Hstep HRd
            cases hrd : Mc.redo told with
            | none =>
              have HRes := hide (HRes0.out hrd)
              rw [hrd] at HRd2
              clear hrd HRes0 HResq HRess HInv
              go_wp2_with fail
              refine (HMs.out _).mono ?_
              rintro _ _ ⟨rfl, rfl⟩
              go_wp2_with fail
              refine HRd2.out.mono ?_
              rintro e w3 ⟨h1, _⟩
              obtain ⟨rfl, M3, hT3⟩ := h1 (by first | rfl | trivial)
              have HT3 := hide hT3
              clear h1 hT3
              go_wp2_with fail
              go_ret
              refine ⟨none, HRes.out, (fun _ => ⟨rfl, M3, ?_⟩), (fun M' n' e => (by cases e))⟩
              obtain ⟨L3, q1, q2⟩ := HT3.out
              exact ⟨L3, q1, HSw.out.trans q2⟩
            | some M3 =>
              have HResq' := hide (HResq.out M3 hrd)
              have HRess' := hide (fun r => HRess.out M3 r hrd)
              have HI3 := hide (HInv.out M3 hrd)
              rw [hrd] at HRd2
              clear hrd HRes0 HResq HRess HInv
              go_wp2_with fail
              refine (HMs.out _).mono ?_
              rintro _ _ ⟨rfl, rfl⟩
              go_wp2_with fail
              refine HRd2.out.mono ?_
              rintro e w3 ⟨_, h1⟩
              obtain ⟨⟨r, rfl, hr⟩, hT3⟩ := h1 M3 rfl
              obtain ⟨L3, hA3, hS3⟩ := hT3
              have HA3 := hide hA3
              have HS3 : Hid (Step (ofP who) L w L3 w3) := HSw.out.trans hS3
              have HR3 := hide (HR2.out.keep hS3 hn)
              have Hr := hide hr
              clear h1 hr hA3 hS3 d1
              cases r with
              | false =>
                have HRes : Hid (Replays M 0 log none) := HResq'.out (fun h => by have := Hr.out.2 h; cases this)
                go_wp2_with fail
                go_ret
                exact ⟨none, HRes.out, (fun _ => ⟨rfl, M3, L3, HA3.out, HS3.out⟩), (fun M' n' e => (by cases e))⟩
              | true =>
                have hyes := Hr.out.1 rfl
                exact absurd (Hshort.out (by first | rfl | trivial)) hyes.1
end Go.Proofs.YtojpjaifhjigfaaGreatDoor
