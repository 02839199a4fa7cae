/- Steps of the proof (several texts in one): Replay, LogBack. -/
import Derived.Test.YtojpjaifhjigfabGreatDoorMTwo15

/- replay: what a log tells is done on a new agent. -/
namespace Go.Proofs.YtojpjaifhjigfabGreatDoor
open Go.RowKit Go.Maps

theorem repeat_all (gx N : Nat) (ba : Int) (w : World) (h1 : N ≤ 120) (hx : Blk w gx #[.int .i64 0, .int .i64 ba] 101) :
    Calls Tryz.prog 42 #[.slice (some ⟨gx, 0, none⟩) 1 1, .int .i64 N] w fun e w' => e = .returned (.slice (some ⟨w.heap.size, 0, none⟩) N N) ∧ Blk w' w.heap.size ((List.replicate N (⟨0, ba⟩ : Ret)).flatMap Ret.cells).toArray 101 ∧ Below w.heap.size w w' := by
  by_cases h0 : N = 0
  · subst h0
    refine (repeat_zero gx w).mono ?_
    rintro e w' ⟨rfl, rfl⟩
    exact ⟨rfl, Blk.new w _ _, (Below.refl _ _).alloc (Nat.le_refl _) _⟩
  · exact repeat_any gx N ba w (by omega) h1 hx

/-- Whether a record may stand behind n bytes. -/
def mayStand (by' n : Nat) : Bool := by' == 43 || (by' == 61 && n == 0)
set_option maxHeartbeats 1000000 in
theorem mayStand_any (by' n : Nat) (w : World) : Calls Tryz.prog 39 #[.int .i64 by', .int .i64 n] w fun e w' => e = .returned (.bool (mayStand by' n)) ∧ w = w' := by
  unfold mayStand
  by_cases h1 : by' = 43
  · subst h1
    go_enter Tryz.func39, Tryz.ntmps39
    go_wp2_with fail
    go_ret
    exact ⟨rfl, rfl⟩
  · have h1I : ¬ ((by' : Int) = 43) := by omega
    have e1 : (by' == 43) = false := by simp [h1]
    rw [e1, Bool.false_or]
    by_cases h2 : by' = 61
    · subst h2
      by_cases h3 : n = 0
      · subst h3
        go_enter Tryz.func39, Tryz.ntmps39
        go_wp2_with fail
        go_ret
        exact ⟨rfl, rfl⟩
      · have h3I : ¬ ((n : Int) = 0) := by omega
        have e3 : (n == 0) = false := by simp [h3]
        rw [e3]
        go_enter Tryz.func39, Tryz.ntmps39
        go_wp2_with fail
        go_ret
        exact ⟨by first | rfl | simp [h3], rfl⟩
    · have h2I : ¬ ((by' : Int) = 61) := by omega
      have e2 : (by' == 61) = false := by simp [h2]
      rw [e2]
      go_enter Tryz.func39, Tryz.ntmps39
      go_wp2_with fail
      go_ret
      exact ⟨by first | rfl | simpa using h1I, rfl⟩

/-- What a log makes of an agent, and how much of it is whole; none: it is no log. -/
inductive Replays : Ag → Nat → List UInt8 → Option (Ag × Nat) → Prop
  | done (M : Ag) (n : Nat) : Replays M n [] (some (M, n))
  | cut (M : Ag) (n : Nat) (rest : List UInt8) : rest ≠ [] → (Rd.record ⟨rest, false⟩).2.2.short = true → (Rd.record ⟨rest, false⟩).1 = 43 → Replays M n rest (some (M, n))
  | stand (M : Ag) (n : Nat) (rest : List UInt8) : rest ≠ [] → ¬ ((Rd.record ⟨rest, false⟩).2.2.short = true ∧ (Rd.record ⟨rest, false⟩).1 = 43) → mayStand (Rd.record ⟨rest, false⟩).1 n = false → Replays M n rest none
  | none (M : Ag) (n : Nat) (rest : List UInt8) : rest ≠ [] → ¬ ((Rd.record ⟨rest, false⟩).2.2.short = true ∧ (Rd.record ⟨rest, false⟩).1 = 43) → mayStand (Rd.record ⟨rest, false⟩).1 n = true → M.redo (Rd.record ⟨rest, false⟩).2.1 = .none → Replays M n rest .none
  | quota (M : Ag) (n : Nat) (rest : List UInt8) (M' : Ag) : rest ≠ [] → ¬ ((Rd.record ⟨rest, false⟩).2.2.short = true ∧ (Rd.record ⟨rest, false⟩).1 = 43) → mayStand (Rd.record ⟨rest, false⟩).1 n = true → M.redo (Rd.record ⟨rest, false⟩).2.1 = some M' → ¬ ((Rd.record ⟨rest, false⟩).2.1 ≠ [] ∧ M'.QuotaOk) → Replays M n rest .none
  | step (M : Ag) (n : Nat) (rest : List UInt8) (M' : Ag) (r : Option (Ag × Nat)) : rest ≠ [] → ¬ ((Rd.record ⟨rest, false⟩).2.2.short = true ∧ (Rd.record ⟨rest, false⟩).1 = 43) → mayStand (Rd.record ⟨rest, false⟩).1 n = true → M.redo (Rd.record ⟨rest, false⟩).2.1 = some M' → ((Rd.record ⟨rest, false⟩).2.1 ≠ [] ∧ M'.QuotaOk) → Replays M' (n + (rest.length - (Rd.record ⟨rest, false⟩).2.2.rest.length)) (Rd.record ⟨rest, false⟩).2.2.rest r → Replays M n rest r

theorem record_len (x : UInt8) (l : List UInt8) : (Rd.record ⟨x :: l, false⟩).2.2.rest.length ≤ l.length := by
  unfold Rd.record
  exact Nat.le_trans (piece_len _ _) (Nat.le_trans (number_len _) (Nat.le_trans (number_len _) (Nat.le_refl _)))
/-- Once short, nothing is left. -/
def Rd.Ok (r : Rd) : Prop := r.short = true → r.rest = []
theorem Rd.Ok.number {r : Rd} (h : r.Ok) : r.number.2.Ok := by
  unfold Rd.number
  split
  · exact fun _ => rfl
  · rename_i x l e
    intro hs
    have := h hs
    rw [e] at this
    cases this
theorem Rd.Ok.piece {r : Rd} (h : r.Ok) (n : Nat) (hs : (r.piece n).2.short = true) : (r.piece n).1 = [] := by
  unfold Rd.piece at hs ⊢
  split
  · rfl
  · rename_i hl
    rw [if_neg hl] at hs
    rw [h hs]
    simp
theorem record_short (rest : List UInt8) (h : (Rd.record ⟨rest, false⟩).2.2.short = true) : (Rd.record ⟨rest, false⟩).2.1 = [] := by
  have h0 : Rd.Ok ⟨rest, false⟩ := fun e => by cases e
  exact Rd.Ok.piece h0.number.number.number _ h
theorem RInv.redoF {n : Nat} : ∀ {M M' : Ag} {rest : List UInt8}, RInv M → Go.Proofs.YtojpjaifhjigfabGreatDoor.redoF n M rest = some M' → RInv M' := by
  induction n with
  | zero =>
    intro M M' rest h e
    unfold Go.Proofs.YtojpjaifhjigfabGreatDoor.redoF at e
    split at e
    · cases e; exact h
    · cases e
  | succ n ih =>
    intro M M' rest h e
    unfold Go.Proofs.YtojpjaifhjigfabGreatDoor.redoF at e
    split at e
    · cases e; exact h
    · split at e
      · cases e
      · rename_i hc
        simp only [Bool.or_eq_true, Bool.not_eq_true', not_or, Bool.not_eq_true, Bool.not_eq_false] at hc
        exact ih (h.played (event_form _) hc.2) e
theorem RInv.redo {M M' : Ag} {told : List UInt8} (h : RInv M) (e : M.redo told = some M') : RInv M' := RInv.redoF h e

/-- The agent behind replay. -/
def Ag.reborn (M : Ag) (l : List UInt8) : Ag := { M with log := l, rt := List.replicate M.bs.length ⟨0, M.c.ba⟩ }
theorem reborn_step {w0 wb : World} {L : Labs} {who g gR n : Nat} {M : Ag} {ba : Int} (hA : AgentAt w0 L who g M) (hb : Below w0.heap.size w0 wb) (hgR : w0.heap.size ≤ gR) (hn : n ≤ 120) (hR : Blk wb gR ((List.replicate n (⟨0, ba⟩ : Ret)).flatMap Ret.cells).toArray 101) :
    Turned w0 L who g { M with rt := List.replicate n ⟨0, ba⟩ } (wb.setCell ⟨g, 17, none⟩ (.slice (some ⟨gR, 0, none⟩) n n)) := by
  obtain ⟨bq, bm, cn, tv, dv, nv, rv, ov, hA⟩ := hA
  have s2 : Step (fun _ => False) L w0 (lay L gR (some (who, .rt))) wb := Step.of_below' hb (lay_below (Or.inr hgR))
  have b1 := hA.blk.keep s2 (fun h => h)
  have hlen := rep_flat_len ba n
  have hr2 : RowAt wb (lay L gR (some (who, .rt))) (some (who, .rt)) 101 2 (.slice (some ⟨gR, 0, none⟩) n n) n ((List.replicate n (⟨0, ba⟩ : Ret)).flatMap Ret.cells) := by
    refine ⟨⟨by rw [hlen]; omega, Or.inr ⟨gR, n, _, rfl, Nat.zero_le _, hR, Nat.le_refl _, by unfold maxLen; omega, by rw [List.size_toArray, hlen]; omega, ?_⟩⟩, fun g' hg' => ?_⟩
    · rw [List.take_of_length_le (by show ((List.replicate n (⟨0, ba⟩ : Ret)).flatMap Ret.cells).length ≤ n * 2; rw [hlen]; omega)]
    · obtain rfl : gR = g' := by simpa [Value.ownBlock] using hg'
      exact lay_same _ _ _
  have s3 : Step (fun l => l = some (who, .ag)) (lay L gR (some (who, .rt))) wb (lay L gR (some (who, .rt))) (wb.setCell ⟨g, 17, none⟩ (.slice (some ⟨gR, 0, none⟩) n n)) := Step.setCell _ _ _ _ b1.2
  refine ⟨lay L gR (some (who, .rt)), ⟨bq, bm, cn, tv, dv, nv, .slice (some ⟨gR, 0, none⟩) n n, ov, ?_, ?_, ?_, ?_, ?_, ?_, ?_, ?_⟩, (s2.mono (fun l h => h.elim)).trans (s3.mono (fun l h => ⟨_, h⟩))⟩
  · refine ⟨?_, b1.2⟩
    rw [← agCells_set17 bq bm tv dv nv rv]
    exact b1.1.set 17 _
  · exact (hA.tk.keep s2 (fun h => h)).keep s3 (by simp)
  · exact (hA.qs.keep s2 (fun h => h) (fun _ _ h => h)).keep s3 (by simp) (by simp)
  · exact (hA.dd.keep s2 (fun h => h)).keep s3 (by simp)
  · exact (hA.nm.keep s2 (fun h => h)).keep s3 (by simp)
  · have := hr2.keep s3 (by simp)
    simpa using this
  · exact (hA.ol.keep s2 (fun h => h) (fun _ h => h) (fun _ h => h)).keep s3 (by simp) (by simp) (by simp)
  · exact (hA.cm.keep s2 (fun h => h)).keep s3 (by simp)

/-- What replay brings. -/
def Replayed (w : World) (L : Labs) (who g : Nat) (M : Ag) (log : List UInt8) (e : Ending) (w' : World) : Prop :=
  ∃ res, Replays M 0 log res ∧ (res = none → e = .returned (.bool false) ∧ ∃ M', Turned w L who g M' w') ∧ (∀ M' n, res = some (M', n) → e = .returned (.bool true) ∧ Turned w L who g (M'.reborn (log.take n)) w')

set_option maxRecDepth 100000 in
set_option maxHeartbeats 8000000 in
theorem replay_any (A : Nat → Addr) (L : Labs) (who g : Nat) (M : Ag) (log : List UInt8) (w : World) (hE : ErrsAt w L A) (hA : AgentAt w L who g M) (h : RInv M) (hlog : log.length ≤ 140737488355328) :
    Calls Tryz.prog 21 #[.pointer (some ⟨g, 0, none⟩), encStr log] w fun e w' => Replayed w L who g M log e w' := by
  have HE := hide hE
  have HA := hide hA
  have H := hide h
  have hn : ¬ ofP who none := fun ⟨q, e⟩ => by cases e
  clear hE hA h
  go_enter Tryz.func21, Tryz.ntmps21
  go_wp2_with fail
  go_loopg [5, 6] log.length (fun m s5 s6 wr => ∃ (gr n : Nat) (rest : List UInt8) (Mc : Ag) (L1 : Labs), m = rest.length ∧ s5 = .int .i64 n ∧ s6 = .pointer (some ⟨gr, 0, none⟩) ∧ n + rest.length = log.length ∧ w.heap.size ≤ gr ∧ BlkAt wr L1 none gr (Rd.cells ⟨rest, false⟩) 94 ∧ AgentAt wr L1 who g Mc ∧ RInv Mc ∧ (∀ res, Replays Mc n rest res → Replays M 0 log res) ∧ Step (ofP who) L w L1 wr)
  case atStart =>
    refine ⟨w.heap.size, 0, log, M, clip L w.heap.size, rfl, rfl, rfl, by omega, Nat.le_refl _, ⟨Blk.new w _ _, clip_none L (Nat.le_refl _)⟩, ?_, H.out, fun res h => h, (Step.clipped L w).trans (Step.alloc _ w _)⟩
    exact HA.out.keep ((Step.clipped (p := fun _ => False) L w).trans (Step.alloc _ w _)) (fun _ h => h)
  case round =>
    obtain ⟨gr, n, rest, Mc, L1, rfl, rfl, rfl, hnl, hge, hR, hAc, hIc, hrep, hSc⟩ := hrel
    have c0 : wr.cell? ⟨gr, 0, none⟩ = some (encStr rest) := hR.1.cell 0
    have HR := hide hR
    have HAc := hide hAc
    have HIc := hide hIc
    have Hrep := hide hrep
    have HSc := hide hSc
    clear hR hAc hIc hrep hSc
    cases rest with
    | nil =>
      have HRes : Hid (Replays M 0 log (some (Mc, n))) := Hrep.out _ (Replays.done Mc n)
      have hnle : (n : Int) ≤ (log.length : Int) := by omega
      have hn0 : (0 : Int) ≤ (n : Int) := by omega
      clear Hrep HR HA H HE
      have hAg := HAc.out
      have hgl : g < wr.heap.size := World.block_lt_of_cell? wr _ (agent_log hAg)
      have HCl := hide (fun (W : World) => strClone_any ⟨(log.take n).toArray⟩ W (by simp [ByteArray.size]; omega))
      have h120 := HIc.out.b120
      clear hAg
      go_wp2_with fail
      rw [enc_take]
      refine (HCl.out _).mono ?_
      rintro e w1 ⟨rfl, hb1⟩
      have hA1 := HAc.out.keep (Step.of_below (p := fun _ => False) (L := L1) hb1) (fun _ h => h)
      have f3 := agent_frozen hA1 3
      have d3 := agent_log hA1
      have HA1 := hide hA1
      have HS1' : Hid (Step (ofP who) L w L1 w1) := HSc.out.trans (Step.of_below hb1)
      have HV0 : Hid (∃ (L2 : Labs), AgentAt (w1.setCell ⟨g, 3, none⟩ (encStr (log.take n))) L2 who g { Mc with log := log.take n } ∧ Step (ofP who) L w L2 (w1.setCell ⟨g, 3, none⟩ (encStr (log.take n)))) := by
        obtain ⟨L2, q1, q2⟩ := logged_step HA1.out (log.take n)
        exact ⟨L2, q1, HS1'.out.trans q2⟩
      clear hb1 hA1 HAc HSc
      generalize hlt : log.take n = lt at *
      unfold encStr at *
      go_wp2_with fail
      generalize hV : w1.setCell ⟨g, 3, none⟩ _ = V at *
      obtain ⟨L2, hA2, hS2⟩ := HV0.out
      have HA2 := hide hA2
      have HS2 := hide hS2
      obtain ⟨bq, bm, cn, tv, dv, nv, rv, ov, q⟩ := hA2
      obtain ⟨ta, tc, rfl, _⟩ := q.tk.shape
      have k0 : V.cell? ⟨g, 0, none⟩ = some (.slice ta Mc.bs.length tc) := q.blk.1.cell 0
      have k8 : V.cell? ⟨g, 8, none⟩ = some (.int .i64 Mc.c.ba) := q.blk.1.cell 8
      have k17 : V.cell? ⟨g, 17, none⟩ = some rv := q.blk.1.cell 17
      have f17 : V.frozen? ⟨g, 17, none⟩ = false := q.blk.1.frozen 17
      have hgV : g < V.heap.size := q.blk.1.lt
      have HK := hide q.blk.1
      clear q hS2 hV HV0 HA1 HS1' f3 d3
      obtain ⟨nb, hnb⟩ : ∃ nb, Mc.bs.length = nb := ⟨_, rfl⟩
      obtain ⟨ba, hba⟩ : ∃ ba, Mc.c.ba = ba := ⟨_, rfl⟩
      have Hreb : Hid (∀ (w2 : World), Blk w2 (V.heap.size + 1) ((List.replicate nb (⟨0, ba⟩ : Ret)).flatMap Ret.cells).toArray 101 → Below V.heap.size V w2 → Turned w L who g (Mc.reborn lt) (w2.setCell ⟨g, 17, none⟩ (.slice (some ⟨V.heap.size + 1, 0, none⟩) nb nb))) := fun w2 h1 h2 => by
        obtain ⟨L3, q1, q2⟩ := reborn_step HA2.out h2 (Nat.le_succ _) (by omega) h1
        refine ⟨L3, ?_, HS2.out.trans q2⟩
        unfold Ag.reborn
        rw [hnb, hba]
        exact q1
      have HRp : Hid (∀ (W : World), W = (V.alloc (.cells #[.int .i64 0, .int .i64 ba] 101)).drew ∨ W = V.drew.alloc (.cells #[.int .i64 0, .int .i64 ba] 101) → Calls Tryz.prog 42 #[.slice (some ⟨V.heap.size, 0, none⟩) 1 1, .int .i64 nb] W fun e w' => e = .returned (.slice (some ⟨V.heap.size + 1, 0, none⟩) nb nb) ∧ Blk w' (V.heap.size + 1) ((List.replicate nb (⟨0, ba⟩ : Ret)).flatMap Ret.cells).toArray 101 ∧ Below V.heap.size V w') := fun W hW => by
        have hz : W.heap.size = V.heap.size + 1 := by
          rcases hW with rfl | rfl
          · exact World.size_alloc V _
          · exact World.size_alloc V.drew _
        have hx : Blk W V.heap.size #[.int .i64 0, .int .i64 ba] 101 := by
          rcases hW with rfl | rfl
          · exact Blk.new V _ _
          · exact Blk.new V.drew _ _
        have hbW : Below V.heap.size V W := by
          rcases hW with rfl | rfl
          · exact ((Below.refl _ _).alloc (Nat.le_refl _) _).drew
          · exact ((Below.refl V.heap.size V).drew).alloc (Nat.le_refl _) _
        refine (repeat_all V.heap.size nb ba W (by omega) hx).mono ?_
        rintro e w' ⟨rfl, h1, h2⟩
        rw [hz] at h1 h2 ⊢
        exact ⟨rfl, h1, hbW.trans (h2.mono (by omega))⟩
      rw [hnb] at k0
      rw [hba] at k8
      have n0 := World.new_ne V ⟨g, 0, none⟩ k0
      have n8 := World.new_ne V ⟨g, 8, none⟩ k8
      have n17 := World.new_ne V ⟨g, 17, none⟩ k17
      have HC0 := hide k0
      have HC8 := hide k8
      have HC17 := hide k17
      have HKc : Hid (∀ w2, Below V.heap.size V w2 → w2.cell? ⟨g, 0, none⟩ = some (.slice ta nb tc) ∧ w2.cell? ⟨g, 8, none⟩ = some (.int .i64 ba) ∧ w2.cell? ⟨g, 17, none⟩ = some rv ∧ w2.frozen? ⟨g, 17, none⟩ = false ∧ (∀ v, (w2.setCell ⟨g, 17, none⟩ v).cell? ⟨g, 0, none⟩ = some (.slice ta nb tc)) ∧ ∀ v, (w2.setCell ⟨g, 17, none⟩ v).cell? ⟨g, 8, none⟩ = some (.int .i64 ba)) := fun w2 hb => by
        have hB := HK.out.below hb hgV
        have z0 := (hb.cell (p := ⟨g, 0, none⟩) hgV).trans HC0.out
        have z8 := (hb.cell (p := ⟨g, 8, none⟩) hgV).trans HC8.out
        refine ⟨z0, z8, (hb.cell (p := ⟨g, 17, none⟩) hgV).trans HC17.out, hB.frozen 17, fun v => ?_, fun v => ?_⟩
        · rw [(hB.set 17 v).cell 0, ← z0, hB.cell 0]
          simp
        · rw [(hB.set 17 v).cell 8, ← z8, hB.cell 8]
          simp
      clear hnb hba HK HC0 HC8 HC17 HA2 HS2
      go_region_held3 (fun w' => w'.cell? ⟨g, 0, none⟩ = some (.slice ta nb tc) ∧ w'.cell? ⟨g, 8, none⟩ = some (.int .i64 ba)) (go_keep)
        (first
          | (go_at_call 42; refine (HRp.out _ (by first | exact Or.inl rfl | exact Or.inr rfl)).mono ?_; rintro e w2 ⟨rfl, hr2, hb2⟩; obtain ⟨z0, z8, z17, zf, zz0, zz8⟩ := HKc.out w2 hb2; have HT2 := hide (Hreb.out w2 hr2 hb2); clear hr2 hb2))
      all_goals
        go_wp2_with fail
        go_ret
        refine ⟨some (Mc, n), HRes.out, (fun h => (by cases h)), fun M' n' e => ?_⟩
        cases e
        rw [hlt]
        exact ⟨rfl, HT2.out⟩
    | cons x l =>
      have HRec := hide (rdRecord_any gr ⟨x :: l, false⟩ wr HR.out.1)
      have hlen := record_len x l
      have Hcut : Hid ((Rd.record ⟨x :: l, false⟩).2.2.short = true → (Rd.record ⟨x :: l, false⟩).1 = 43 → Replays M 0 log (some (Mc, n))) := fun h1 h2 => Hrep.out _ (Replays.cut Mc n _ (by simp) h1 h2)
      have Hstand : Hid (¬ ((Rd.record ⟨x :: l, false⟩).2.2.short = true ∧ (Rd.record ⟨x :: l, false⟩).1 = 43) → mayStand (Rd.record ⟨x :: l, false⟩).1 n = false → Replays M 0 log none) := fun h1 h2 => Hrep.out _ (Replays.stand Mc n _ (by simp) h1 h2)
      have Hnone : Hid (¬ ((Rd.record ⟨x :: l, false⟩).2.2.short = true ∧ (Rd.record ⟨x :: l, false⟩).1 = 43) → mayStand (Rd.record ⟨x :: l, false⟩).1 n = true → Mc.redo (Rd.record ⟨x :: l, false⟩).2.1 = none → Replays M 0 log none) := fun h1 h2 h3 => Hrep.out _ (Replays.none Mc n _ (by simp) h1 h2 h3)
      have Hquota : Hid (∀ M', ¬ ((Rd.record ⟨x :: l, false⟩).2.2.short = true ∧ (Rd.record ⟨x :: l, false⟩).1 = 43) → mayStand (Rd.record ⟨x :: l, false⟩).1 n = true → Mc.redo (Rd.record ⟨x :: l, false⟩).2.1 = some M' → ¬ ((Rd.record ⟨x :: l, false⟩).2.1 ≠ [] ∧ M'.QuotaOk) → Replays M 0 log none) := fun M' h1 h2 h3 h4 => Hrep.out _ (Replays.quota Mc n _ M' (by simp) h1 h2 h3 h4)
      have Hstep : Hid (∀ M' r, ¬ ((Rd.record ⟨x :: l, false⟩).2.2.short = true ∧ (Rd.record ⟨x :: l, false⟩).1 = 43) → mayStand (Rd.record ⟨x :: l, false⟩).1 n = true → Mc.redo (Rd.record ⟨x :: l, false⟩).2.1 = some M' → ((Rd.record ⟨x :: l, false⟩).2.1 ≠ [] ∧ M'.QuotaOk) → Replays M' (n + ((x :: l).length - (Rd.record ⟨x :: l, false⟩).2.2.rest.length)) (Rd.record ⟨x :: l, false⟩).2.2.rest r → Replays M 0 log r) := fun M' r h1 h2 h3 h4 h5 => Hrep.out _ (Replays.step Mc n _ M' r (by simp) h1 h2 h3 h4 h5)
      have Hshort := hide (record_short (x :: l))
      generalize (Rd.record ⟨x :: l, false⟩) = rc at *
      obtain ⟨by', told, rd⟩ := rc
      obtain ⟨rest2, short⟩ := rd
      simp only at HRec hlen Hcut Hstand Hnone Hquota Hstep Hshort
      have hgrl : gr < wr.heap.size := HR.out.1.lt
      clear Hrep
      go_wp2_with fail
      refine HRec.out.mono ?_
      rintro e w2 ⟨rfl, hR2, hg2⟩
      have hS2 : Step (fun q => q = none) L1 wr (clip L1 wr.heap.size) w2 := (Step.clipped L1 wr).trans (Step.of_grown hg2 (fun j hj => by cases hj; rw [clip, if_pos hgrl]; exact HR.out.2) (fun _ _ => rfl))
      have hA2 : AgentAt w2 (clip L1 wr.heap.size) who g Mc := HAc.out.keep hS2 (fun q h => by cases h)
      have hL2 : clip L1 wr.heap.size gr = none := by rw [clip, if_pos hgrl]; exact HR.out.2
      have hSw : Step (ofP who) L w (clip L1 wr.heap.size) w2 := HSc.out.upon hg2 hge (fun k hk => by rw [clip, if_pos (Nat.lt_of_lt_of_le hk HSc.out.size)])
      generalize clip L1 wr.heap.size = L2 at *
      have HA2 := hide hA2
      have HR2 : Hid (BlkAt w2 L2 none gr (Rd.cells ⟨rest2, short⟩) 94) := ⟨hR2, hL2⟩
      have HSw := hide hSw
      have d1 : w2.cell? ⟨gr, 1, none⟩ = some (.bool short) := hR2.cell 1
      clear hA2 hR2 hL2 hSw hS2 hg2 HRec HAc HSc HR c0 hgrl
      by_cases hsc : short = true ∧ by' = 43
      · obtain ⟨rfl, rfl⟩ := hsc
        have HRes : Hid (Replays M 0 log (some (Mc, n))) := Hcut.out rfl rfl
        have hnle : (n : Int) ≤ (log.length : Int) := by omega
        have hn0 : (0 : Int) ≤ (n : Int) := by omega
        clear Hcut Hstand Hnone Hquota Hstep HA H HE HR2
        have HAc : Hid (AgentAt w2 L2 who g Mc) := HA2.out
        have HSc : Hid (Step (ofP who) L w L2 w2) := HSw.out
        clear HA2 HSw
        have hAg := HAc.out
        have hgl : g < w2.heap.size := World.block_lt_of_cell? w2 _ (agent_log hAg)
        have HCl := hide (fun (W : World) => strClone_any ⟨(log.take n).toArray⟩ W (by simp [ByteArray.size]; omega))
        have h120 := HIc.out.b120
        clear hAg
        go_wp2_with fail
        rw [enc_take]
        refine (HCl.out _).mono ?_
        rintro e w1 ⟨rfl, hb1⟩
        have hA1 := HAc.out.keep (Step.of_below (p := fun _ => False) (L := L2) hb1) (fun _ h => h)
        have f3 := agent_frozen hA1 3
        have d3 := agent_log hA1
        have HA1 := hide hA1
        have HS1' : Hid (Step (ofP who) L w L2 w1) := HSc.out.trans (Step.of_below hb1)
        have HV0 : Hid (∃ (L2 : Labs), AgentAt (w1.setCell ⟨g, 3, none⟩ (encStr (log.take n))) L2 who g { Mc with log := log.take n } ∧ Step (ofP who) L w L2 (w1.setCell ⟨g, 3, none⟩ (encStr (log.take n)))) := by
          obtain ⟨L5, q1, q2⟩ := logged_step HA1.out (log.take n)
          exact ⟨L5, q1, HS1'.out.trans q2⟩
        clear hb1 hA1 HAc HSc
        generalize hlt : log.take n = lt at *
        unfold encStr at *
        go_wp2_with fail
        generalize hV : w1.setCell ⟨g, 3, none⟩ _ = V at *
        obtain ⟨L5, hA2, hS2⟩ := HV0.out
        have HA2 := hide hA2
        have HS2 := hide hS2
        obtain ⟨bq, bm, cn, tv, dv, nv, rv, ov, q⟩ := hA2
        obtain ⟨ta, tc, rfl, _⟩ := q.tk.shape
        have k0 : V.cell? ⟨g, 0, none⟩ = some (.slice ta Mc.bs.length tc) := q.blk.1.cell 0
        have k8 : V.cell? ⟨g, 8, none⟩ = some (.int .i64 Mc.c.ba) := q.blk.1.cell 8
        have k17 : V.cell? ⟨g, 17, none⟩ = some rv := q.blk.1.cell 17
        have f17 : V.frozen? ⟨g, 17, none⟩ = false := q.blk.1.frozen 17
        have hgV : g < V.heap.size := q.blk.1.lt
        have HK := hide q.blk.1
        clear q hS2 hV HV0 HA1 HS1' f3 d3
        obtain ⟨nb, hnb⟩ : ∃ nb, Mc.bs.length = nb := ⟨_, rfl⟩
        obtain ⟨ba, hba⟩ : ∃ ba, Mc.c.ba = ba := ⟨_, rfl⟩
        have Hreb : Hid (∀ (w2 : World), Blk w2 (V.heap.size + 1) ((List.replicate nb (⟨0, ba⟩ : Ret)).flatMap Ret.cells).toArray 101 → Below V.heap.size V w2 → Turned w L who g (Mc.reborn lt) (w2.setCell ⟨g, 17, none⟩ (.slice (some ⟨V.heap.size + 1, 0, none⟩) nb nb))) := fun w2 h1 h2 => by
          obtain ⟨L3, q1, q2⟩ := reborn_step HA2.out h2 (Nat.le_succ _) (by omega) h1
          refine ⟨L3, ?_, HS2.out.trans q2⟩
          unfold Ag.reborn
          rw [hnb, hba]
          exact q1
        have HRp : Hid (∀ (W : World), W = (V.alloc (.cells #[.int .i64 0, .int .i64 ba] 101)).drew ∨ W = V.drew.alloc (.cells #[.int .i64 0, .int .i64 ba] 101) → Calls Tryz.prog 42 #[.slice (some ⟨V.heap.size, 0, none⟩) 1 1, .int .i64 nb] W fun e w' => e = .returned (.slice (some ⟨V.heap.size + 1, 0, none⟩) nb nb) ∧ Blk w' (V.heap.size + 1) ((List.replicate nb (⟨0, ba⟩ : Ret)).flatMap Ret.cells).toArray 101 ∧ Below V.heap.size V w') := fun W hW => by
          have hz : W.heap.size = V.heap.size + 1 := by
            rcases hW with rfl | rfl
            · exact World.size_alloc V _
            · exact World.size_alloc V.drew _
          have hx : Blk W V.heap.size #[.int .i64 0, .int .i64 ba] 101 := by
            rcases hW with rfl | rfl
            · exact Blk.new V _ _
            · exact Blk.new V.drew _ _
          have hbW : Below V.heap.size V W := by
            rcases hW with rfl | rfl
            · exact ((Below.refl _ _).alloc (Nat.le_refl _) _).drew
            · exact ((Below.refl V.heap.size V).drew).alloc (Nat.le_refl _) _
          refine (repeat_all V.heap.size nb ba W (by omega) hx).mono ?_
          rintro e w' ⟨rfl, h1, h2⟩
          rw [hz] at h1 h2 ⊢
          exact ⟨rfl, h1, hbW.trans (h2.mono (by omega))⟩
        rw [hnb] at k0
        rw [hba] at k8
        have n0 := World.new_ne V ⟨g, 0, none⟩ k0
        have n8 := World.new_ne V ⟨g, 8, none⟩ k8
        have n17 := World.new_ne V ⟨g, 17, none⟩ k17
        have HC0 := hide k0
        have HC8 := hide k8
        have HC17 := hide k17
        have HKc : Hid (∀ w2, Below V.heap.size V w2 → w2.cell? ⟨g, 0, none⟩ = some (.slice ta nb tc) ∧ w2.cell? ⟨g, 8, none⟩ = some (.int .i64 ba) ∧ w2.cell? ⟨g, 17, none⟩ = some rv ∧ w2.frozen? ⟨g, 17, none⟩ = false ∧ (∀ v, (w2.setCell ⟨g, 17, none⟩ v).cell? ⟨g, 0, none⟩ = some (.slice ta nb tc)) ∧ ∀ v, (w2.setCell ⟨g, 17, none⟩ v).cell? ⟨g, 8, none⟩ = some (.int .i64 ba)) := fun w2 hb => by
          have hB := HK.out.below hb hgV
          have z0 := (hb.cell (p := ⟨g, 0, none⟩) hgV).trans HC0.out
          have z8 := (hb.cell (p := ⟨g, 8, none⟩) hgV).trans HC8.out
          refine ⟨z0, z8, (hb.cell (p := ⟨g, 17, none⟩) hgV).trans HC17.out, hB.frozen 17, fun v => ?_, fun v => ?_⟩
          · rw [(hB.set 17 v).cell 0, ← z0, hB.cell 0]
            simp
          · rw [(hB.set 17 v).cell 8, ← z8, hB.cell 8]
            simp
        clear hnb hba HK HC0 HC8 HC17 HA2 HS2
        go_region_held3 (fun w' => w'.cell? ⟨g, 0, none⟩ = some (.slice ta nb tc) ∧ w'.cell? ⟨g, 8, none⟩ = some (.int .i64 ba)) (go_keep)
          (first
            | (go_at_call 42; refine (HRp.out _ (by first | exact Or.inl rfl | exact Or.inr rfl)).mono ?_; rintro e w2 ⟨rfl, hr2, hb2⟩; obtain ⟨z0, z8, z17, zf, zz0, zz8⟩ := HKc.out w2 hb2; have HT2 := hide (Hreb.out w2 hr2 hb2); clear hr2 hb2))
        all_goals
          go_wp2_with fail
          go_ret
          refine ⟨some (Mc, n), HRes.out, (fun h => (by cases h)), fun M' n' e => ?_⟩
          cases e
          rw [hlt]
          exact ⟨rfl, HT2.out⟩
      · have Hsc := hide hsc
        have HMs := hide (fun W => mayStand_any by' n W)
        have HRd := hide (fun (W : World) (hA : AgentAt W L2 who g Mc) (hS : Step (ofP who) L w L2 W) => redo_any A L2 who g Mc told W (HE.out.keep hS hn) hA HIc.out)
        have hcond : ∀ (t : Bool), short = t → (t = true → (by' : Int) ≠ 43) := fun t h1 h2 h3 => hsc ⟨h1.trans h2, by omega⟩
        unfold Redid at HRd
        generalize hms : mayStand by' n = ms at *
        have Hms := hide hms
        clear hms hsc
        cases short with
        | false =>
          clear hcond
          cases ms with
          | false =>
            have HRes : Hid (Replays M 0 log none) := Hstand.out Hsc.out rfl
            go_wp2_with fail
            refine (HMs.out _).mono ?_
            rintro _ _ ⟨rfl, rfl⟩
            go_wp2_with fail
            go_ret
            exact ⟨none, HRes.out, (fun _ => ⟨rfl, Mc, L2, HA2.out, HSw.out⟩), (fun M' n' e => (by cases e))⟩
          | true =>
            have HRes0 : Hid (Mc.redo told = none → Replays M 0 log none) := Hnone.out Hsc.out rfl
            have HResq : Hid (∀ M', Mc.redo told = some M' → ¬ (told ≠ [] ∧ M'.QuotaOk) → Replays M 0 log none) := fun M' => Hquota.out M' Hsc.out rfl
            have HRess : Hid (∀ M' r, Mc.redo told = some M' → (told ≠ [] ∧ M'.QuotaOk) → Replays M' (n + ((x :: l).length - rest2.length)) rest2 r → Replays M 0 log r) := fun M' r => Hstep.out M' r Hsc.out rfl
            have HRd2 := hide (HRd.out w2 HA2.out HSw.out)
            have HInv := hide (fun M' (e : Mc.redo told = some M') => HIc.out.redo e)
            clear Hcut Hstand Hnone Hquota Hstep HRd
            cases hrd : Mc.redo told with
            | none =>
              have HRes := hide (HRes0.out hrd)
              rw [hrd] at HRd2
              clear hrd HRes0 HResq HRess HInv
              go_wp2_with fail
              refine (HMs.out _).mono ?_
              rintro _ _ ⟨rfl, rfl⟩
              go_wp2_with fail
              refine HRd2.out.mono ?_
              rintro e w3 ⟨h1, _⟩
              obtain ⟨rfl, M3, hT3⟩ := h1 (by first | rfl | trivial)
              have HT3 := hide hT3
              clear h1 hT3
              go_wp2_with fail
              go_ret
              refine ⟨none, HRes.out, (fun _ => ⟨rfl, M3, ?_⟩), (fun M' n' e => (by cases e))⟩
              obtain ⟨L3, q1, q2⟩ := HT3.out
              exact ⟨L3, q1, HSw.out.trans q2⟩
            | some M3 =>
              have HResq' := hide (HResq.out M3 hrd)
              have HRess' := hide (fun r => HRess.out M3 r hrd)
              have HI3 := hide (HInv.out M3 hrd)
              rw [hrd] at HRd2
              clear hrd HRes0 HResq HRess HInv
              go_wp2_with fail
              refine (HMs.out _).mono ?_
              rintro _ _ ⟨rfl, rfl⟩
              go_wp2_with fail
              refine HRd2.out.mono ?_
              rintro e w3 ⟨_, h1⟩
              obtain ⟨⟨r, rfl, hr⟩, hT3⟩ := h1 M3 rfl
              obtain ⟨L3, hA3, hS3⟩ := hT3
              have HA3 := hide hA3
              have HS3 : Hid (Step (ofP who) L w L3 w3) := HSw.out.trans hS3
              have HR3 := hide (HR2.out.keep hS3 hn)
              have Hr := hide hr
              clear h1 hr hA3 hS3 d1
              cases r with
              | false =>
                have HRes : Hid (Replays M 0 log none) := HResq'.out (fun h => by have := Hr.out.2 h; cases this)
                go_wp2_with fail
                go_ret
                exact ⟨none, HRes.out, (fun _ => ⟨rfl, M3, L3, HA3.out, HS3.out⟩), (fun M' n' e => (by cases e))⟩
              | true =>
                have hyes := Hr.out.1 rfl
                have Hyes := hide hyes
                have k0 : w3.cell? ⟨gr, 0, none⟩ = some (encStr rest2) := HR3.out.1.cell 0
                have k1 : w3.cell? ⟨gr, 1, none⟩ = some (.bool false) := HR3.out.1.cell 1
                simp only [List.length_cons] at hnl
                obtain ⟨n', hn'⟩ : ∃ n', n' = n + ((x :: l).length - rest2.length) := ⟨_, rfl⟩
                have hn'' : n' + rest2.length = log.length := by rw [hn']; simp only [List.length_cons]; omega
                have hn'I : (log.length : Int) - (rest2.length : Int) = (n' : Int) := by omega
                have HRess'' : Hid (∀ r, Replays M3 n' rest2 r → Replays M 0 log r) := fun r h => HRess'.out r hyes (hn' ▸ h)
                clear hyes hn'
                go_wp2_with fail
                go_roundg (rest2.length)
                case measure => simp; omega
                case rel =>
                  have hz : w.heap.size ≤ w3.heap.size := HS3.out.size
                  refine ⟨w3.heap.size, n', rest2, M3, clip L3 w3.heap.size, rfl, ?_, rfl, hn'', hz, ⟨Blk.new w3 _ _, clip_none L3 (Nat.le_refl _)⟩, ?_, HI3.out, HRess''.out, HS3.out.trans ((Step.clipped L3 w3).trans (Step.alloc _ w3 _))⟩
                  · first | rfl | (rw [← hn'I])
                  · exact HA3.out.keep ((Step.clipped (p := fun _ => False) L3 w3).trans (Step.alloc _ w3 _)) (fun _ h => h)
        | true =>
          have hby : ¬ ((by' : Int) = 43) := hcond true rfl rfl
          clear hcond
          cases ms with
          | false =>
            have HRes : Hid (Replays M 0 log none) := Hstand.out Hsc.out rfl
            go_wp2_with fail
            refine (HMs.out _).mono ?_
            rintro _ _ ⟨rfl, rfl⟩
            go_wp2_with fail
            go_ret
            exact ⟨none, HRes.out, (fun _ => ⟨rfl, Mc, L2, HA2.out, HSw.out⟩), (fun M' n' e => (by cases e))⟩
          | true =>
            have HRes0 : Hid (Mc.redo told = none → Replays M 0 log none) := Hnone.out Hsc.out rfl
            have HResq : Hid (∀ M', Mc.redo told = some M' → ¬ (told ≠ [] ∧ M'.QuotaOk) → Replays M 0 log none) := fun M' => Hquota.out M' Hsc.out rfl
            have HRess : Hid (∀ M' r, Mc.redo told = some M' → (told ≠ [] ∧ M'.QuotaOk) → Replays M' (n + ((x :: l).length - rest2.length)) rest2 r → Replays M 0 log r) := fun M' r => Hstep.out M' r Hsc.out rfl
            have HRd2 := hide (HRd.out w2 HA2.out HSw.out)
            have HInv := hide (fun M' (e : Mc.redo told = some M') => HIc.out.redo e)
            clear Hcut Hstand Hnone Hquota Hstep HRd
            cases hrd : Mc.redo told with
            | none =>
              have HRes := hide (HRes0.out hrd)
              rw [hrd] at HRd2
              clear hrd HRes0 HResq HRess HInv
              go_wp2_with fail
              refine (HMs.out _).mono ?_
              rintro _ _ ⟨rfl, rfl⟩
              go_wp2_with fail
              refine HRd2.out.mono ?_
              rintro e w3 ⟨h1, _⟩
              obtain ⟨rfl, M3, hT3⟩ := h1 (by first | rfl | trivial)
              have HT3 := hide hT3
              clear h1 hT3
              go_wp2_with fail
              go_ret
              refine ⟨none, HRes.out, (fun _ => ⟨rfl, M3, ?_⟩), (fun M' n' e => (by cases e))⟩
              obtain ⟨L3, q1, q2⟩ := HT3.out
              exact ⟨L3, q1, HSw.out.trans q2⟩
            | some M3 =>
              have HResq' := hide (HResq.out M3 hrd)
              have HRess' := hide (fun r => HRess.out M3 r hrd)
              have HI3 := hide (HInv.out M3 hrd)
              rw [hrd] at HRd2
              clear hrd HRes0 HResq HRess HInv
              go_wp2_with fail
              refine (HMs.out _).mono ?_
              rintro _ _ ⟨rfl, rfl⟩
              go_wp2_with fail
              refine HRd2.out.mono ?_
              rintro e w3 ⟨_, h1⟩
              obtain ⟨⟨r, rfl, hr⟩, hT3⟩ := h1 M3 rfl
              obtain ⟨L3, hA3, hS3⟩ := hT3
              have HA3 := hide hA3
              have HS3 : Hid (Step (ofP who) L w L3 w3) := HSw.out.trans hS3
              have HR3 := hide (HR2.out.keep hS3 hn)
              have Hr := hide hr
              clear h1 hr hA3 hS3 d1
              cases r with
              | false =>
                have HRes : Hid (Replays M 0 log none) := HResq'.out (fun h => by have := Hr.out.2 h; cases this)
                go_wp2_with fail
                go_ret
                exact ⟨none, HRes.out, (fun _ => ⟨rfl, M3, L3, HA3.out, HS3.out⟩), (fun M' n' e => (by cases e))⟩
              | true =>
                have hyes := Hr.out.1 rfl
                exact absurd (Hshort.out (by first | rfl | trivial)) hyes.1
end Go.Proofs.YtojpjaifhjigfabGreatDoor

/- What was written is read back. -/
namespace Go.Proofs.YtojpjaifhjigfabGreatDoor
open Go.RowKit Go.Maps

theorem ofNat_toNat {n : Nat} (h : n < 256) : (UInt8.ofNat n).toNat = n := by
  rw [UInt8.toNat_ofNat']
  omega
theorem piece_back (a more : List UInt8) (s : Bool) : Rd.piece ⟨a ++ more, s⟩ a.length = (a, ⟨more, s⟩) := by
  unfold Rd.piece
  rw [if_neg (by simp)]
  simp
theorem text_back (a more : List UInt8) (s : Bool) (h : a.length < 256) : Rd.text ⟨part a ++ more, s⟩ = (a, ⟨more, s⟩) := by
  have e : Rd.number ⟨part a ++ more, s⟩ = ((UInt8.ofNat a.length).toNat, ⟨a ++ more, s⟩) := rfl
  unfold Rd.text
  rw [e, ofNat_toNat h]
  exact piece_back a more s
/-- An event as it is read back. -/
def Ev.norm (e : Ev) : Ev := if e.kind = 0 then ⟨0, { e.b with st := 0, fl := 0 }, 0, 0⟩ else ⟨e.kind, noBat, e.pl, e.f⟩
theorem event_back {e : Ev} (he : e.Tell) (more : List UInt8) : Rd.event ⟨e.bytes ++ more, false⟩ = (e.norm, ⟨more, false⟩) := by
  rcases he with ⟨h0, _, _, h1, h2, h3, h4, h5⟩ | ⟨h0, h1, h2, h3⟩
  · have eb : e.bytes ++ more = 0 :: UInt8.ofNat e.b.dst.toNat :: (part e.b.ten ++ (part e.b.id ++ (part e.b.body ++ more))) := by
      unfold Ev.bytes
      rw [if_pos h0]
      simp [evBytes, evParts]
    rw [eb]
    have n1 : Rd.number ⟨0 :: UInt8.ofNat e.b.dst.toNat :: (part e.b.ten ++ (part e.b.id ++ (part e.b.body ++ more))), false⟩ = (0, ⟨UInt8.ofNat e.b.dst.toNat :: (part e.b.ten ++ (part e.b.id ++ (part e.b.body ++ more))), false⟩) := rfl
    have n2 : Rd.number ⟨UInt8.ofNat e.b.dst.toNat :: (part e.b.ten ++ (part e.b.id ++ (part e.b.body ++ more))), false⟩ = (e.b.dst.toNat, ⟨part e.b.ten ++ (part e.b.id ++ (part e.b.body ++ more)), false⟩) := by
      show ((UInt8.ofNat e.b.dst.toNat).toNat, _) = _
      rw [ofNat_toNat (by omega)]
    unfold Rd.event Ev.norm
    simp only [n1, n2, text_back _ _ _ (show e.b.ten.length < 256 by omega), text_back _ _ _ (show e.b.id.length < 256 by omega), text_back _ _ _ (show e.b.body.length < 256 by omega)]
    rw [if_neg (by simp), if_pos h0]
    have : ((e.b.dst.toNat : Nat) : Int) = e.b.dst := by omega
    rw [this]
  · have eb : e.bytes ++ more = UInt8.ofNat e.kind :: UInt8.ofNat e.pl :: UInt8.ofNat e.f :: more := by
      unfold Ev.bytes
      rw [if_neg (by omega)]
      rfl
    rw [eb]
    have n1 : Rd.number ⟨UInt8.ofNat e.kind :: UInt8.ofNat e.pl :: UInt8.ofNat e.f :: more, false⟩ = (e.kind, ⟨UInt8.ofNat e.pl :: UInt8.ofNat e.f :: more, false⟩) := by
      show ((UInt8.ofNat e.kind).toNat, _) = _
      rw [ofNat_toNat (by omega)]
    have n2 : Rd.number ⟨UInt8.ofNat e.pl :: UInt8.ofNat e.f :: more, false⟩ = (e.pl, ⟨UInt8.ofNat e.f :: more, false⟩) := by
      show ((UInt8.ofNat e.pl).toNat, _) = _
      rw [ofNat_toNat (by omega)]
    have n3 : Rd.number ⟨UInt8.ofNat e.f :: more, false⟩ = (e.f, ⟨more, false⟩) := by
      show ((UInt8.ofNat e.f).toNat, _) = _
      rw [ofNat_toNat (by omega)]
    unfold Rd.event Ev.norm
    simp only [n1, n2, n3]
    rw [if_pos (by omega), if_neg (by omega)]
theorem record_back {by' : UInt8} {es : List Ev} (hne : es ≠ []) (hl : (es.flatMap Ev.bytes).length < 65536) (more : List UInt8) : Rd.record ⟨recB by' es ++ more, false⟩ = (by'.toNat, es.flatMap Ev.bytes, ⟨more, false⟩) := by
  have eb : recB by' es ++ more = by' :: UInt8.ofNat ((es.flatMap Ev.bytes).length / 256) :: UInt8.ofNat ((es.flatMap Ev.bytes).length % 256) :: (es.flatMap Ev.bytes ++ more) := by
    unfold recB
    rw [if_neg hne]
    simp
  rw [eb]
  generalize es.flatMap Ev.bytes = t at *
  have n1 : Rd.number ⟨by' :: UInt8.ofNat (t.length / 256) :: UInt8.ofNat (t.length % 256) :: (t ++ more), false⟩ = (by'.toNat, ⟨UInt8.ofNat (t.length / 256) :: UInt8.ofNat (t.length % 256) :: (t ++ more), false⟩) := rfl
  have n2 : Rd.number ⟨UInt8.ofNat (t.length / 256) :: UInt8.ofNat (t.length % 256) :: (t ++ more), false⟩ = (t.length / 256, ⟨UInt8.ofNat (t.length % 256) :: (t ++ more), false⟩) := by
    show ((UInt8.ofNat (t.length / 256)).toNat, _) = _
    rw [ofNat_toNat (by omega)]
  have n3 : Rd.number ⟨UInt8.ofNat (t.length % 256) :: (t ++ more), false⟩ = (t.length % 256, ⟨t ++ more, false⟩) := by
    show ((UInt8.ofNat (t.length % 256)).toNat, _) = _
    rw [ofNat_toNat (by omega)]
  unfold Rd.record
  simp only [n1, n2, n3]
  rw [show t.length / 256 * 256 + t.length % 256 = t.length by omega, piece_back]

theorem canBe_norm (M : Ag) (e : Ev) : M.canBe e.norm = M.canBe e := by
  unfold Ev.norm
  by_cases h : e.kind = 0
  · rw [if_pos h]
    unfold Ag.canBe
    rw [if_pos rfl, if_pos h]
    rfl
  · rw [if_neg h]
    unfold Ag.canBe
    rw [if_neg h, if_neg h]
theorem played_norm (M : Ag) (e : Ev) : M.played e.norm = M.played e := by
  unfold Ev.norm
  by_cases h : e.kind = 0
  · rw [if_pos h]
    unfold Ag.played
    rw [if_pos rfl, if_pos h]
    rfl
  · rw [if_neg h]
    unfold Ag.played
    rw [if_neg h, if_neg h]
/-- Each event can come next. -/
def Chain : Ag → List Ev → Prop
  | _, [] => True
  | M, e :: es => M.canBe e = true ∧ Chain (M.played e) es
theorem redo_chain : ∀ (es : List Ev) (M : Ag), (∀ e ∈ es, e.Tell) → Chain M es → M.redo (es.flatMap Ev.bytes) = some (es.foldl Ag.played M)
  | [], M, _, _ => rfl
  | e :: es, M, ht, hc => by
    have he := ht e (by simp)
    have hpos := he.pos
    have hb := event_back he (es.flatMap Ev.bytes)
    have e1 : (e :: es).flatMap Ev.bytes = e.bytes ++ es.flatMap Ev.bytes := by simp
    rw [e1]
    cases hx : e.bytes ++ es.flatMap Ev.bytes with
    | nil =>
      have := congrArg List.length hx
      rw [List.length_append] at this
      simp at this
      have h2 := this.1
      rw [h2] at hpos
      simp at hpos
    | cons x l =>
      rw [redo_cons, ← hx, hb]
      simp only [canBe_norm, played_norm, hc.1, Bool.not_true, Bool.or_false, Bool.false_eq_true, if_false]
      exact redo_chain es (M.played e) (fun e he => ht e (by simp [he])) hc.2

/-- Whatever comes behind, these bytes lead from one agent to another. -/
def Leads (M : Ag) (n : Nat) (bs : List UInt8) (M' : Ag) : Prop := ∀ more res, Replays M n (bs ++ more) res → Replays M' (n + bs.length) more res
theorem Leads.refl (M : Ag) (n : Nat) : Leads M n [] M := fun _ _ h => h
theorem Leads.trans {M M1 M2 : Ag} {n : Nat} {b1 b2 : List UInt8} (h : Leads M n b1 M1) (k : Leads M1 (n + b1.length) b2 M2) : Leads M n (b1 ++ b2) M2 := fun more res hr => by
  rw [List.append_assoc] at hr
  have := k more res (h _ res hr)
  rw [List.length_append, ← Nat.add_assoc]
  exact this
theorem Leads.record {M : Ag} {n : Nat} {by' : UInt8} {es : List Ev} (hne : es ≠ []) (ht : ∀ e ∈ es, e.Tell) (hl : (es.flatMap Ev.bytes).length < 65536) (hc : Chain M es) (hm : mayStand by'.toNat n = true) (hq : (es.foldl Ag.played M).QuotaOk) : Leads M n (recB by' es) (es.foldl Ag.played M) := fun more res hr => by
  have hb := record_back (by' := by') hne hl more
  have hre := redo_chain es M ht hc
  have hbne : es.flatMap Ev.bytes ≠ [] := by
    cases es with
    | nil => exact absurd rfl hne
    | cons e es =>
      have := (ht e (by simp)).pos
      intro h
      have h2 := congrArg List.length h
      simp at h2
      rw [h2.1] at this
      simp at this
  have hlen : (recB by' es ++ more).length - more.length = (recB by' es).length := by rw [List.length_append]; omega
  have hne2 : recB by' es ++ more ≠ [] := by
    unfold recB
    rw [if_neg hne]
    simp
  generalize recB by' es ++ more = bx at *
  cases hr with
  | done => exact absurd rfl hne2
  | cut _ _ _ _ h1 _ => rw [hb] at h1; cases h1
  | stand _ _ _ _ _ h2 => rw [hb] at h2; rw [hm] at h2; cases h2
  | none _ _ _ _ _ _ h3 => rw [hb] at h3; rw [hre] at h3; cases h3
  | quota _ _ _ M' _ _ _ h3 h4 =>
    rw [hb] at h3 h4
    rw [hre] at h3
    cases h3
    exact absurd ⟨hbne, hq⟩ h4
  | step _ _ _ M' _ _ _ _ h3 _ h5 =>
    rw [hb] at h3 h5
    rw [hre] at h3
    cases h3
    simp only at h5
    rw [hlen] at h5
    exact h5
theorem Leads.all {M M' : Ag} {log : List UInt8} {res : Option (Ag × Nat)} (h : Leads M 0 log M') (hr : Replays M 0 log res) : res = some (M', log.length) := by
  have := h [] res (by simpa using hr)
  rw [Nat.zero_add] at this
  cases this with
  | done => rfl
  | cut _ _ _ h1 => exact absurd rfl h1
  | stand _ _ _ h1 => exact absurd rfl h1
  | none _ _ _ h1 => exact absurd rfl h1
  | quota _ _ _ _ h1 => exact absurd rfl h1
  | step _ _ _ _ _ h1 => exact absurd rfl h1
end Go.Proofs.YtojpjaifhjigfabGreatDoor
