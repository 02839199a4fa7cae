/- Steps of the proof (several texts in one): RunReply3, RunCrash, RunSub, RunSub2, RunSub3. -/
import Derived.Test.YtojpjaifhjigfabGreatDoorMTwo23
import Derived.Test.YtojpjaifhjigfabGreatDoorMTwo20
import Derived.Test.YtojpjaifhjigfabGreatDoorMTwo17

/- conduitkeep's run: reply to what is under way, the walk. -/
namespace Go.Proofs.YtojpjaifhjigfabGreatDoor
open Go.RowKit Go.Maps

theorem RunP.setKept {w : World} {L : Labs} {gr g cm : Nat} {c : Cfg} {fv wv : Value} {R : Rn} (h : RunP w L gr g cm c fv wv R) : RunP (w.setCell ⟨gr, 18, none⟩ (.bool true)) L gr g cm c fv wv R ∧ Step (fun l => l = some (0, .ag)) L w L (w.setCell ⟨gr, 18, none⟩ (.bool true)) := by
  have s1 : Step (fun l => l = some (0, .ag)) L w L (w.setCell ⟨gr, 18, none⟩ (.bool true)) := Step.setCell _ _ _ _ h.blk.2
  refine ⟨⟨⟨?_, h.blk.2⟩, h.fa.keep s1 (by simp), h.wy.keep s1 (by simp)⟩, s1⟩
  have := h.blk.1.set 18 (.bool true)
  rw [runCells_18] at this
  exact this
/-- What reply brings. -/
def ReplyR (w : World) (gr g cm : Nat) (zs : List Int) (N : Nat) (M' : Ag) (t : Nat) (R : Rn) (e : Ending) (w' : World) : Prop :=
  e = .returned (.tuple #[]) ∧ ∃ R' L', RK w w' L' gr g cm zs N R' M' t ∧ R'.n = R.n

set_option maxRecDepth 100000 in
set_option maxHeartbeats 8000000 in
theorem rreply_core (w wr : World) (L : Labs) (gr g cm : Nat) (zs : List Int) (N : Nat) (R : Rn) (M : Ag) (t d : Nat) (o : Out) (good : Bool) (draw : Int) (hK : RK w wr L gr g cm zs N R M t) (hLn : ∀ k, wr.heap.size ≤ k → L k = none) (ht : t + 10 ≤ 4000000000000) (hd : 0 ≤ draw) (ho : M.os[d]? = some o) (hw : o.way ≠ -1) :
    Calls Tryz.prog 26 #[.pointer (some ⟨gr, 0, none⟩), .int .i64 d, .bool good, .int .i64 draw] wr fun e w' => ReplyR w gr g cm zs N (M.replied d good draw) (t + 1) R e w' := by
  have hdl := (List.getElem?_eq_some_iff.1 ho).1
  obtain ⟨y, hy⟩ : ∃ y, R.ws[d]? = some y := ⟨_, List.getElem?_eq_getElem (by rw [hK.rw'.wl]; exact hdl)⟩
  obtain ⟨y1, y2, _⟩ := hK.rw'.ws d y o hy ho
  obtain ⟨p, f, hp, hfp, hRep⟩ := hK.repOk (by omega) hd ho hw good
  obtain ⟨fv, wv, hP⟩ := hK.at'
  obtain ⟨gw, wk, rfl, _, hcw, _⟩ := hP.way hy
  have hwl : R.ws.length = M.os.length := hK.rw'.wl
  have hdI : (d : Int) < (R.ws.length : Int) := by omega
  have c13 : wr.cell? ⟨gr, 13, none⟩ = some (.slice (some ⟨gw, 0, none⟩) R.ws.length wk) := hP.blk.1.cell 13
  have z0 : wr.cell? ⟨gw, d * 3, none⟩ = some (.int .i64 (p : Int)) := by rw [← hp, ← y1]; exact hcw 0 _ rfl
  have z1 : wr.cell? ⟨gw, d * 3 + 1, none⟩ = some (.int .i64 o.sends) := by rw [← y2]; exact hcw 1 _ rfl
  have z2 : wr.cell? ⟨gw, d * 3 + 2, none⟩ = some (.int .i64 y.bg) := hcw 2 _ rfl
  have HRp : Hid (∀ W, Below wr.heap.size wr W → Calls Tryz.prog 52 #[.pointer (some ⟨g, 0, none⟩), .int .i64 d, .int .i64 o.sends, .bool good, .int .i64 draw] W fun e w' => e = .returned .nilIface ∧ Turned W L 1 g (M.replied d good draw) w') := fun W hW =>
    reply_big L 1 g t d M o good draw W (hK.ag.keep (Step.of_below (p := fun _ => False) hW) (fun _ h => h)) hK.inv (by omega) hd ho hw
  have hcfg := Cfg.ok (show GoodC (madeC zs) (DT (madeT zs N)) from by have := hK.inv.good; rw [hK.c, hK.D] at this; exact this).1
  have htime := hK.time0
  have HOver := hide (fun L' W (hW : RunAt W L' gr g cm (madeC zs) R) => kover_any L' gr g cm (madeC zs) R d p y f good W hW hy (y1.trans hp) hfp (by omega) (by have h2 := hcfg.ba; have h3 := hcfg.ca; omega))
  have h100 : (R.over (madeC zs).ba d good).fs.length ≤ 100 := by
    have h1 := hRep.n.2
    unfold Rn.replied at h1
    simp only [looked_len] at h1
    rw [h1, ← hK.n]
    exact hK.n100
  have HLook := hide (fun L' W (hW : RunAt W L' gr g cm (madeC zs) (R.over (madeC zs).ba d good)) (hA : AgentAt W L' 1 g (M.replied d good draw)) => klook_any L' gr g cm (madeC zs) (R.over (madeC zs).ba d good) (M.replied d good draw) W hW hA hRep.len (by omega) (fun i b hb => ids_find hRep.ids (by rw [hRep.len]; omega) hb) hRep.goes)
  have HRep := hide hRep
  have HK := hide hK
  have HP := hide hP
  have HLn := hide hLn
  have hp0 : ¬ ((p : Int) < 0) := by omega
  clear hcw hK hP ho hy y1 y2 hw hRep hfp hp hLn htime hcfg
  go_enter Tryz.func26, Tryz.ntmps26
  go_wp2_with fail
  generalize hW1 : World.alloc wr _ = W1
  have hb1 : Below wr.heap.size wr W1 := by rw [← hW1]; exact (Below.refl _ _).alloc (Nat.le_refl _) _
  have hB1 : Blk W1 wr.heap.size #[.int .i64 (p : Int), .int .i64 o.sends, .int .i64 y.bg] 75 := by rw [← hW1]; exact Blk.new wr _ _
  have k0 : W1.cell? ⟨gr, 0, none⟩ = some (.pointer (some ⟨g, 0, none⟩)) := (HP.out.blk.1.below hb1 HP.out.blk.1.lt).cell 0
  have m1 : W1.cell? ⟨wr.heap.size, 1, none⟩ = some (.int .i64 o.sends) := hB1.cell 1
  have HB1 : Hid (BlkAt W1 L none wr.heap.size #[.int .i64 (p : Int), .int .i64 o.sends, .int .i64 y.bg] 75) := ⟨hB1, HLn.out _ (Nat.le_refl _)⟩
  have Hb1 := hide hb1
  clear hW1 hb1 hB1 z0 z1 z2 c13
  have HP1 := hide (HP.out.keep (Step.of_below (p := fun _ => False) Hb1.out) (fun _ h => h))
  have HKeep : Hid (∀ W L2, Step (ofP 1) L W1 L2 W → W.cell? ⟨gr, 0, none⟩ = some (.pointer (some ⟨g, 0, none⟩)) ∧ W.cell? ⟨wr.heap.size, 1, none⟩ = some (.int .i64 o.sends)) := fun W L2 hW => ⟨(HP1.out.keep hW (fun q => not_ofP (by decide) q)).blk.1.cell 0, (HB1.out.keep hW (fun ⟨q, e⟩ => by cases e)).1.cell 1⟩
  go_cut [9] (fun s9 wx => s9 = .nilIface ∧ Turned W1 L 1 g (M.replied d good draw) wx)
  case first =>
    go_region_held3 (fun w' => w'.cell? ⟨gr, 0, none⟩ = some (.pointer (some ⟨g, 0, none⟩)) ∧ w'.cell? ⟨wr.heap.size, 1, none⟩ = some (.int .i64 o.sends)) (go_keep)
      (first | (go_at_call 52; refine (HRp.out _ (by first | exact Hb1.out | exact Hb1.out.drew)).mono ?_; rintro e w2 ⟨rfl, L2, hA2, hS2⟩; have HA2 := hide hA2; have HS2 : Hid (Step (ofP 1) L W1 L2 w2) := (by first | exact hS2 | exact (Step.drew L W1).trans hS2); have f1 := (HKeep.out w2 L2 HS2.out).1; have f2 := (HKeep.out w2 L2 HS2.out).2; clear hA2 hS2))
    all_goals
      go_wp2_with fail
      go_meet
      exact ⟨rfl, _, HA2.out, HS2.out⟩
  case rest =>
    obtain ⟨rfl, L2, hA2, hS2⟩ := hcut
    have hP2 := HP1.out.keep hS2 (fun q => not_ofP (by decide) q)
    have hB2 := HB1.out.keep hS2 (fun ⟨q, e⟩ => by cases e)
    have n0 : wc.cell? ⟨wr.heap.size, 0, none⟩ = some (.int .i64 (p : Int)) := hB2.1.cell 0
    have d16 : wc.cell? ⟨gr, 16, none⟩ = some (.bool true) := hP2.blk.1.cell 16
    have f16 : wc.frozen? ⟨gr, 16, none⟩ = false := hP2.blk.1.frozen 16
    obtain ⟨hP3, hS3⟩ := hP2.setOk
    have HB3 := hide (hB2.keep hS3 (by simp))
    have HA3 := hide (hA2.keep hS3 (fun q e => by cases e))
    have HS3 : Hid (Step ofR L wr L2 (wc.setCell ⟨gr, 16, none⟩ (.bool true))) := (Step.of_below Hb1.out).trans ((step_r1 hS2).trans (step_r0 (step0 hS3)))
    have HR3 : Hid (RunAt (wc.setCell ⟨gr, 16, none⟩ (.bool true)) L2 gr g cm (madeC zs) R) := ⟨_, _, hP3⟩
    clear hP2 hB2 hP3 hS3 hA2 hS2 k0 m1
    go_wp2_with fail
    generalize hW3 : wc.setCell ⟨gr, 16, none⟩ (.bool true) = W3 at *
    clear hW3 d16 f16 n0 HKeep HP1 HP
    refine (HOver.out L2 W3 HR3.out).mono ?_
    rintro e w4 ⟨rfl, hR4, hS4⟩
    have HR4 := hide hR4
    have HB4 := hide (HB3.out.keep hS4 (fun ⟨q, e⟩ => by cases e))
    have HA4 := hide (HA3.out.keep hS4 (fun q => not_ofP (by decide) q))
    have HS4 : Hid (Step ofR L wr L2 w4) := HS3.out.trans (step_r0 hS4)
    clear hR4 hS4 HR3 HB3 HA3 HS3
    go_wp2_with fail
    refine (HLook.out L2 w4 HR4.out HA4.out).mono ?_
    rintro e w5 ⟨rfl, hR5, hS5⟩
    have HB5 := hide (HB4.out.keep hS5 (fun ⟨q, e⟩ => by cases e))
    have HA5 := hide (HA4.out.keep hS5 (fun q => not_ofP (by decide) q))
    have HS5 : Hid (Step ofR L wr L2 w5) := HS4.out.trans (step_r0 hS5)
    have hR5' : RunAt w5 L2 gr g cm (madeC zs) (R.replied (M.replied d good draw) (madeC zs).ba d good) := hR5
    obtain ⟨fv', wv', hP5⟩ := hR5'
    obtain ⟨f', hf', hst⟩ := HRep.out.fact
    obtain ⟨gf, fk, rfl, hgf, hcf, _⟩ := hP5.fact hf'
    have hlf := (List.getElem?_eq_some_iff.1 hf').1
    have k12 : w5.cell? ⟨gr, 12, none⟩ = some (.slice (some ⟨gf, 0, none⟩) (R.replied (M.replied d good draw) (madeC zs).ba d good).fs.length fk) := hP5.blk.1.cell 12
    have n0 : w5.cell? ⟨wr.heap.size, 0, none⟩ = some (.int .i64 (p : Int)) := HB5.out.1.cell 0
    have a0 := hcf 0 _ rfl
    have a1 := hcf 1 _ rfl
    have a2 := hcf 2 _ rfl
    have a3 := hcf 3 _ rfl
    have a4 := hcf 4 _ rfl
    have a5 := hcf 5 _ rfl
    have a6 := hcf 6 _ rfl
    have a7 := hcf 7 _ rfl
    simp only [Nat.add_zero] at a0
    have hgrl := hP5.blk.1.lt
    have hwrl := HB5.out.1.lt
    have Hst := hide hst
    have HP5 := hide hP5
    generalize hm : (R.replied (M.replied d good draw) (madeC zs).ba d good).fs.length = m at *
    have hpI : (p : Int) < (m : Int) := by omega
    have Hm := hide hm
    clear hR5 hS5 HR4 HB4 HA4 HS4 hcf hf' hst hP5 hm
    obtain ⟨⟨fd, ften, fid, fbo, fst', ffl⟩, faf, fsn⟩ := f'
    simp only at a0 a1 a2 a3 a4 a5 a6 a7 Hst
    go_wp2_with fail
    have hgfl : gf < w5.heap.size := hgf
    go_cut [10] (fun s10 wx => s10 = .pointer (some ⟨w5.heap.size, 0, none⟩) ∧ Blk wx w5.heap.size #[.int .i64 fd, encStr ften, encStr fid, encStr fbo, .int .i64 fst', .int .i64 ffl, .int .i64 faf, .int .i64 fsn] 50 ∧ Below w5.heap.size w5 wx)
    case first =>
      have n12 := World.new_ne w5 ⟨gr, 12, none⟩ k12
      have nb0 := World.new_ne w5 ⟨wr.heap.size, 0, none⟩ n0
      have nf0 := World.new_ne w5 ⟨gf, p * 8, none⟩ a0
      go_region_held3 (fun w' => w'.cell? ⟨gr, 12, none⟩ = some (.slice (some ⟨gf, 0, none⟩) m fk) ∧ w'.cell? ⟨wr.heap.size, 0, none⟩ = some (.int .i64 (p : Int)) ∧ w'.cell? ⟨gf, p * 8, none⟩ = some (.int .i64 fd) ∧ w'.cell? ⟨gf, p * 8 + 1, none⟩ = some (encStr ften) ∧ w'.cell? ⟨gf, p * 8 + 2, none⟩ = some (encStr fid) ∧ w'.cell? ⟨gf, p * 8 + 3, none⟩ = some (encStr fbo) ∧ w'.cell? ⟨gf, p * 8 + 4, none⟩ = some (.int .i64 fst') ∧ w'.cell? ⟨gf, p * 8 + 5, none⟩ = some (.int .i64 ffl) ∧ w'.cell? ⟨gf, p * 8 + 6, none⟩ = some (.int .i64 faf) ∧ w'.cell? ⟨gf, p * 8 + 7, none⟩ = some (.int .i64 fsn)) (go_keep) (fail)
      all_goals
        go_wp2_with fail
        go_meet
        exact ⟨rfl, Blk.made rfl _ _, ((Below.refl _ _).alloc (Nat.le_refl _) _).drew⟩
    case rest =>
      obtain ⟨rfl, hF6, hb6⟩ := hcut
      have hP6 := HP5.out.keep (Step.of_below (p := fun _ => False) hb6) (fun _ h => h)
      have k18 : wc.cell? ⟨gr, 18, none⟩ = some (.bool true) := hP6.blk.1.cell 18
      have kf18 : wc.frozen? ⟨gr, 18, none⟩ = false := hP6.blk.1.frozen 18
      have k4 : wc.cell? ⟨w5.heap.size, 4, none⟩ = some (.int .i64 fst') := hF6.cell 4
      obtain ⟨hP7, hS7⟩ := hP6.setKept
      have HP7 := hide hP7
      have HS7 : Hid (Step ofR L wr L2 (wc.setCell ⟨gr, 18, none⟩ (.bool true))) := HS5.out.trans ((Step.of_below hb6).trans (step_r0 (step0 hS7)))
      have HA7 : Hid (AgentAt (wc.setCell ⟨gr, 18, none⟩ (.bool true)) L2 1 g (M.replied d good draw)) := (HA5.out.keep (Step.of_below (p := fun _ => False) hb6) (fun _ h => h)).keep hS7 (fun q e => by cases e)
      have HFin : Hid (ReplyR w gr g cm zs N (M.replied d good draw) (t + 1) R (.returned (.tuple #[])) (wc.setCell ⟨gr, 18, none⟩ (.bool true))) := ⟨rfl, _, L2, HRep.out.rk HK.out ⟨_, _, HP7.out⟩ HA7.out HS7.out, HRep.out.n.1⟩
      have hst := Hst.out
      clear hF6 hb6 hP6 hP7 hS7 a0 a1 a2 a3 a4 a5 a6 a7 k12 n0
      rcases hst with ⟨rfl, rfl⟩ | ⟨rfl, rfl | rfl⟩
      all_goals
        go_wp2_with fail
        first | go_end0 | refine bodyPost_ret (results_none rfl _ _ _) rfl ?_
        exact HFin.out
theorem rreply_live (w wr : World) (L : Labs) (gr g cm : Nat) (zs : List Int) (N : Nat) (R : Rn) (M : Ag) (t d : Nat) (o : Out) (good : Bool) (draw : Int) (hK : RK w wr L gr g cm zs N R M t) (ht : t + 10 ≤ 4000000000000) (hd : 0 ≤ draw) (ho : M.os[d]? = some o) (hw : o.way ≠ -1) :
    Calls Tryz.prog 26 #[.pointer (some ⟨gr, 0, none⟩), .int .i64 d, .bool good, .int .i64 draw] wr fun e w' => ReplyR w gr g cm zs N (M.replied d good draw) (t + 1) R e w' :=
  rreply_core w wr (clip L wr.heap.size) gr g cm zs N R M t d o good draw hK.clip (fun _ hk => clip_none L hk) ht hd ho hw
end Go.Proofs.YtojpjaifhjigfabGreatDoor

/- conduitkeep's run: a crash, as plain data and labels. -/
namespace Go.Proofs.YtojpjaifhjigfabGreatDoor
open Go.RowKit Go.Maps

/-- What of a run's surroundings holds whatever the agent is. -/
structure RB (w wr : World) (L : Labs) (cm : Nat) (zs : List Int) (N : Nat) : Prop where
  cm : ∃ n, n ≤ 4 ∧ OM wr cm n (DT (madeT zs N)) ∧ L cm = none
  lo : ∀ k, k < w.heap.size → L k = none
  b : Below w.heap.size w wr
theorem RB.step {w wr w' : World} {L L' : Labs} {cm : Nat} {zs : List Int} {N : Nat} (h : RB w wr L cm zs N) (s : Step ofR L wr L' w') : RB w w' L' cm zs N := by
  refine ⟨?_, fun k hk => (s.lab k (Nat.lt_of_lt_of_le hk h.b.size)).trans (h.lo k hk), h.b.trans (s.below h.b.size (fun k hk => by rw [h.lo k hk]; exact ofR_none))⟩
  obtain ⟨n, hn, ho, hl⟩ := h.cm
  have hlt := ho.lt
  exact ⟨n, hn, ownsMap_of_block ho (s.block cm hlt (by rw [hl]; exact ofR_none)), (s.lab cm hlt).trans hl⟩
theorem RK.rb {w wr : World} {L : Labs} {gr g cm : Nat} {zs : List Int} {N : Nat} {R : Rn} {M : Ag} {t : Nat} (h : RK w wr L gr g cm zs N R M t) : RB w wr L cm zs N := ⟨h.cm, h.lo, h.b⟩

/-- Labels behind a crash: the run's, and the new agent's. -/
def onlyRun (L : Labs) : Labs := fun k => match L k with
  | some (0, q) => some (0, q)
  | _ => none
theorem onlyRun_run {L : Labs} {k : Nat} {q : Part} (h : L k = some (0, q)) : onlyRun L k = some (0, q) := by unfold onlyRun; rw [h]; rfl
theorem onlyRun_none {L : Labs} {k : Nat} (h : L k = none) : onlyRun L k = none := by unfold onlyRun; rw [h]
def crashLabs (L L' : Labs) (n : Nat) : Labs := fun k => if k < n then onlyRun L k else L' k
/-- A new agent has come in the place of the old. -/
theorem crash_labs {w wr w' : World} {L L' : Labs} {gr g g' cm : Nat} {zs : List Int} {N : Nat} {R : Rn} {M' : Ag} (hR : RunAt wr L gr g cm (madeC zs) R) (hB : RB w wr L cm zs N) (hb : Below wr.heap.size wr w') (hA : AgentAt w' L' 1 g' M') (hl : ∀ k, k < wr.heap.size → L' k = none) :
    RunAt w' (crashLabs L L' wr.heap.size) gr g cm (madeC zs) R ∧ AgentAt w' (crashLabs L L' wr.heap.size) 1 g' M' ∧ RB w w' (crashLabs L L' wr.heap.size) cm zs N := by
  have s : Step (fun _ => False) (onlyRun L) wr (crashLabs L L' wr.heap.size) w' := Step.of_below' hb (fun k hk => by unfold crashLabs; rw [if_pos hk])
  have hR1 : RunAt wr (onlyRun L) gr g cm (madeC zs) R := hR.relab (fun k q h => onlyRun_run h)
  have hB1 : RB w wr (onlyRun L) cm zs N := by
    obtain ⟨n, hn, ho, hl⟩ := hB.cm
    exact ⟨⟨n, hn, ho, onlyRun_none hl⟩, fun k hk => onlyRun_none (hB.lo k hk), hB.b⟩
  refine ⟨hR1.keep s (fun _ h => h), hA.relab (fun k q h => ?_), hB1.step (s.mono (fun _ h => h.elim))⟩
  unfold crashLabs
  rw [if_neg (fun hk => by rw [hl k hk] at h; cases h)]
  exact h

/-- Another agent's address. -/
theorem runCells_0 (g g' cm : Nat) (c : Cfg) (fv wv : Value) (R : Rn) : (runCells g cm c fv wv R).setIfInBounds 0 (.pointer (some ⟨g', 0, none⟩)) = runCells g' cm c fv wv R := by
  apply Array.ext'
  rw [Array.toList_setIfInBounds]
  rfl
theorem RunP.setX {w : World} {L : Labs} {gr g cm : Nat} {c : Cfg} {fv wv : Value} {R : Rn} (h : RunP w L gr g cm c fv wv R) (g' : Nat) : RunP (w.setCell ⟨gr, 0, none⟩ (.pointer (some ⟨g', 0, none⟩))) L gr g' cm c fv wv R ∧ Step (fun l => l = some (0, .ag)) L w L (w.setCell ⟨gr, 0, none⟩ (.pointer (some ⟨g', 0, none⟩))) := by
  have s1 : Step (fun l => l = some (0, .ag)) L w L (w.setCell ⟨gr, 0, none⟩ (.pointer (some ⟨g', 0, none⟩))) := Step.setCell _ _ _ _ h.blk.2
  refine ⟨⟨⟨?_, h.blk.2⟩, h.fa.keep s1 (by simp), h.wy.keep s1 (by simp)⟩, s1⟩
  have := h.blk.1.set 0 (.pointer (some ⟨g', 0, none⟩))
  rw [runCells_0] at this
  exact this

/-- What the run is behind a crash. -/
structure CrashOk (R R' : Rn) : Prop where
  fb : R'.fs.map Fa.b = R.fs.map Fa.b
  sn : R'.fs.map Fa.sn = R.fs.map Fa.sn
  af : ∀ (i : Nat) (f : Fa), R'.fs[i]? = some f → f.af = 0
  wl : R'.ws.length = R.ws.length
  ws : ∀ (d : Nat) (y : Wy), R'.ws[d]? = some y → y = ⟨-1, 0, 0⟩
  time : R'.time = 0
  n : R'.n = R.n
theorem crashed_bs (M : Ag) : M.crashed.bs = M.bs := rfl
theorem RW.crashed {R R' : Rn} {M : Ag} {t : Nat} (h : RW R M) (hI : Inv M t) (hb : R.fs.map Fa.b = M.bs) (k : CrashOk R R') : RW R' M.crashed := by
  have hlen : R'.fs.length = R.fs.length := by have := congrArg List.length k.fb; simpa using this
  refine ⟨hlen.trans h.len, ?_, fun d y o hy ho => ?_, fun i f r b hf hr hb' hst => ?_, ?_, fun i f b hf hb' => ?_⟩
  · have h1 := hI.ol
    have h2 := h.wl
    show R'.ws.length = (List.replicate M.c.d.toNat _).length
    rw [List.length_replicate, k.wl]
    omega
  · have ho2 := (List.mem_replicate.1 (List.mem_of_getElem? ho)).2
    rw [k.ws d y hy, ho2]
    exact ⟨rfl, rfl, fun hh => absurd rfl hh⟩
  · have hr2 := (List.mem_replicate.1 (List.mem_of_getElem? hr)).2
    rw [k.af i f hf, hr2]
    exact Int.le_refl _
  · rw [k.time]; rfl
  · have h1 := map_at (k.fb.trans hb) hf
    rw [show M.bs[i]? = some b from hb'] at h1
    cases h1
    exact ⟨rfl, rfl, rfl, rfl⟩
/-- The whole, behind the last look. -/
theorem RK.crashed {w wr w' : World} {L L' : Labs} {gr g g' cm : Nat} {zs : List Int} {N : Nat} {R R' : Rn} {M : Ag} {t : Nat} (h : RK w wr L gr g cm zs N R M t) (k : CrashOk R R') (hB : RB w w' L' cm zs N) (hR : RunAt w' L' gr g' cm (madeC zs) { R' with fs := looked R'.fs M.bs R'.fs.length }) (hA : AgentAt w' L' 1 g' M.crashed) : RK w w' L' gr g' cm zs N { R' with fs := looked R'.fs M.bs R'.fs.length } M.crashed t := by
  have hlen : R'.fs.length = R.fs.length := by have := congrArg List.length k.fb; simpa using this
  have hl2 : M.bs.length = R'.fs.length := by rw [hlen]; exact h.rw'.len.symm
  have hall := looked_all hl2
  refine ⟨hR, hA, hB.cm, hB.lo, hB.b, (h.rw'.crashed h.inv h.bs k).looked, hall.1, h.ids, ?_, ?_, h.inv.crashed, h.linv.crashed, h.c, h.D, h.ns, fun f hf => ?_, h.lg⟩
  · show R'.n = (looked _ _ _).length
    rw [looked_len, k.n, hlen]
    exact h.n
  · show R'.n ≤ 100
    rw [k.n]
    exact h.n100
  · have hm : f.sn ∈ (looked R'.fs M.bs R'.fs.length).map Fa.sn := List.mem_map_of_mem hf
    rw [hall.2.2, k.sn] at hm
    obtain ⟨f0, h0', e0⟩ := List.mem_map.1 hm
    rw [← e0]
    exact h.sn f0 h0'
/-- The agent that its log gives. -/
theorem crashed_of {M : Ag} {ns : List (List UInt8)} {res : Option (Ag × Nat)} (h : LInv M) (hn : ns = M.ns) (hr : Replays (Ag.new M.c M.D ns) 0 M.log res) : ∃ M' n, res = some (M', n) ∧ M'.reborn (M.log.take n) = M.crashed := by
  subst hn
  refine ⟨_, _, h.log.all hr, ?_⟩
  rw [List.take_length]
  rfl
end Go.Proofs.YtojpjaifhjigfabGreatDoor

/- conduitkeep's run: submit, as plain data. -/
namespace Go.Proofs.YtojpjaifhjigfabGreatDoor
open Go.RowKit Go.Maps

/-- The batch that submit hands in. -/
def rbat (d tn n size : Nat) : Bat := ⟨d, kn.getD tn [], kid n, kbody size, 1, 0⟩
theorem rbat_fresh (d tn n size : Nat) : (rbat d tn n size).fresh = rbat d tn n size := rfl
theorem waits_len (x : List UInt8) : ∀ bs : List Bat, waits bs x ≤ bs.length := fun bs => by
  unfold waits
  rw [pend_len, pend_len, pend_len, pend_len]
  induction bs with
  | nil => simp
  | cons b bs ih =>
    simp only [List.countP_cons, List.length_cons]
    by_cases h0 : b.dst = 0
    · simp only [h0]; simp only [decide_true, Bool.true_and]; simp; split <;> omega
    · by_cases h1 : b.dst = 1
      · simp only [h1]; simp; split <;> omega
      · by_cases h2 : b.dst = 2
        · simp only [h2]; simp; split <;> omega
        · simp only [decide_eq_false h0, decide_eq_false h1, decide_eq_false h2, Bool.false_and, Bool.false_eq_true, if_false]
          split <;> omega
theorem RK.subOk {w wr : World} {L : Labs} {gr g cm : Nat} {zs : List Int} {N : Nat} {R : Rn} {M : Ag} {t : Nat} (hK : RK w wr L gr g cm zs N R M t) (hn : R.n < 100) {d tn size : Nat} (hd : (d : Int) < (madeC zs).d) (ht : tn < N) (hN4 : N ≤ 4) (hs : size ≤ 63) : M.refusal (rbat d tn R.n size) = 0 := by
  have hl : M.bs.length = R.n := by rw [hK.n]; exact hK.rw'.len.symm
  have hf : findId M.bs (kid R.n) = -1 := by
    unfold findId
    have : M.bs.findIdx? (fun b => b.id == kid R.n) = none := by
      rw [List.findIdx?_eq_none_iff]
      intro b hb
      obtain ⟨j, hj, e⟩ := List.getElem_of_mem hb
      have h1 := hK.ids j b (by rw [List.getElem?_eq_getElem hj, e])
      simp only [beq_eq_false_iff_ne, ne_eq]
      intro e2
      rw [h1] at e2
      have := kid_inj (by omega) (by omega) e2
      omega
    rw [this]
  have hdd : destB M (d : Int) = true := by simp [destB, hK.c]; omega
  have hhas : Maps.has M.D (.string (kn.getD tn [])) = true := by
    refine (hK.inv.hs _).1 ?_
    rw [hK.ns, List.getD_eq_getElem?_getD, List.getElem?_eq_getElem (show tn < kn.length by show tn < 4; omega)]
    rw [List.mem_iff_getElem?]
    refine ⟨tn, ?_⟩
    rw [List.getElem?_take_of_lt ht, List.getElem?_eq_getElem (show tn < kn.length by show tn < 4; omega)]
    rfl
  have hq : M.c.q = 100 := by rw [hK.c]; rfl
  have hw := waits_len (kn.getD tn []) M.bs
  unfold Ag.refusal Ag.misfit
  have e1 : destB M (rbat d tn R.n size).dst = true := hdd
  have e2 : Maps.has M.D (.string (rbat d tn R.n size).ten) = true := hhas
  have e3 : inB (rbat d tn R.n size).id.length 1 16 = true := rfl
  have e4 : ¬ 63 < (rbat d tn R.n size).body.length := by
    show ¬ 63 < (kbody _).length
    rw [kbody_len]
    omega
  have e5 : findId M.bs (rbat d tn R.n size).id = -1 := hf
  have e6 : ¬ M.c.q ≤ (waits M.bs (rbat d tn R.n size).ten : Int) := by show ¬ M.c.q ≤ (waits M.bs (kn.getD tn []) : Int); omega
  simp only [e1, e2, e3, if_neg e4, e5]
  simp only [Bool.true_eq_false, if_false, ne_eq, not_true_eq_false]
  rw [if_neg (by omega : ¬ 120 ≤ M.bs.length)]
  simp only [not_true_eq_false, if_false]
  rw [if_neg e6]
/-- The run with one fact more. -/
def Rn.more (R : Rn) (b : Bat) : Rn := { R with fs := R.fs ++ [⟨b, 0, 0⟩], n := R.n + 1 }
theorem snoc_at {α : Type} {l : List α} {a x : α} {i : Nat} (h : (l ++ [a])[i]? = some x) : l[i]? = some x ∨ (i = l.length ∧ x = a) := by
  rcases Nat.lt_trichotomy i l.length with hi | hi | hi
  · rw [List.getElem?_append_left hi] at h; exact Or.inl h
  · subst hi
    rw [List.getElem?_append_right (Nat.le_refl _)] at h
    simp at h
    exact Or.inr ⟨rfl, h.symm⟩
  · rw [List.getElem?_eq_none (by simp; omega)] at h; cases h
theorem RK.subRk {w wr w' : World} {L L' : Labs} {gr g cm : Nat} {zs : List Int} {N : Nat} {R : Rn} {M : Ag} {t : Nat} (hK : RK w wr L gr g cm zs N R M t) (hn : R.n < 100) {d tn size : Nat} (hd : (d : Int) < (madeC zs).d) (ht : tn < N) (hN4 : N ≤ 4) (hs : size ≤ 63) (hR : RunAt w' L' gr g cm (madeC zs) (R.more (rbat d tn R.n size))) (hA : AgentAt w' L' 1 g (M.submitted (rbat d tn R.n size))) (hB : RB w w' L' cm zs N) : RK w w' L' gr g cm zs N (R.more (rbat d tn R.n size)) (M.submitted (rbat d tn R.n size)) (t + 1) := by
  have href := hK.subOk hn hd ht hN4 hs
  have hinv := hK.inv.submitted (rbat d tn R.n size)
  have hlinv := hK.linv.submitted hK.inv (rbat d tn R.n size)
  have e : M.submitted (rbat d tn R.n size) = M.taken (rbat d tn R.n size) := by unfold Ag.submitted; rw [if_pos href]
  have hl : M.bs.length = R.fs.length := hK.rw'.len.symm
  have hrl := hK.inv.rl
  rw [e] at hinv hlinv hA ⊢
  have hten := (hK.inv.sl _ ((hK.inv.hs _).2 (refusal_zero href).2.1)).2
  have hrec := recBytes_le (rbat d tn R.n size) hten (by show 3 ≤ 16; omega) (refusal_zero href).2.2.2.1
  refine ⟨hR, hA, hB.cm, hB.lo, hB.b, ⟨?_, hK.rw'.wl, hK.rw'.ws, fun i f r b hf hr hb hst => ?_, hK.rw'.time, fun i f b hf hb => ?_⟩, ?_, fun i b hb => ?_, ?_, ?_, hinv, hlinv, hK.c, hK.D, hK.ns, fun f hf => ?_, ?_⟩
  · show (R.fs ++ [_]).length = (M.bs ++ [_]).length
    rw [List.length_append, List.length_append, hl]
    rfl
  · rcases snoc_at (show (R.fs ++ [_])[i]? = some f from hf) with hf | ⟨_, rfl⟩
    · have hi := (List.getElem?_eq_some_iff.1 hf).1
      have hr2 : M.rt[i]? = some r := by
        rcases snoc_at (show (M.rt ++ [_])[i]? = some r from hr) with h | ⟨h, _⟩
        · exact h
        · omega
      have hb2 : M.bs[i]? = some b := by
        rcases snoc_at (show (M.bs ++ [_])[i]? = some b from hb) with h | ⟨h, _⟩
        · exact h
        · omega
      exact hK.rw'.af i f r b hf hr2 hb2 hst
    · have hi : i = M.rt.length := by omega
      rcases snoc_at (show (M.rt ++ [_])[i]? = some r from hr) with h | ⟨_, rfl⟩
      · have := (List.getElem?_eq_some_iff.1 h).1; omega
      · exact hK.inv.nw0
  · rcases snoc_at (show (R.fs ++ [_])[i]? = some f from hf) with hf | ⟨h1, rfl⟩
    · have hi := (List.getElem?_eq_some_iff.1 hf).1
      rcases snoc_at (show (M.bs ++ [_])[i]? = some b from hb) with h | ⟨h, _⟩
      · exact hK.rw'.same i f b hf h
      · omega
    · rcases snoc_at (show (M.bs ++ [_])[i]? = some b from hb) with h | ⟨_, rfl⟩
      · have := (List.getElem?_eq_some_iff.1 h).1; omega
      · exact ⟨rfl, rfl, rfl, rfl⟩
  · show (R.fs ++ [_]).map Fa.b = M.bs ++ [_]
    rw [List.map_append, hK.bs]
    rfl
  · rcases snoc_at (show (M.bs ++ [_])[i]? = some b from hb) with h | ⟨h1, rfl⟩
    · exact hK.ids i b h
    · show kid R.n = kid i
      rw [h1, hl, ← hK.n]
  · show R.n + 1 = (R.fs ++ [_]).length
    rw [List.length_append, ← hK.n]
    rfl
  · show R.n + 1 ≤ 100
    omega
  · rcases List.mem_append.1 (show f ∈ R.fs ++ [_] from hf) with h | h
    · have := hK.sn f h
      omega
    · obtain rfl := List.mem_singleton.1 h
      show (0 : Int) ≤ 0 ∧ (0 : Int) ≤ 4 * ((t + 1 : Nat) : Int)
      omega
  · show (M.log ++ recBytes _).length ≤ 15 * (t + 1) + 200 * (M.bs ++ [_]).length
    have := hK.lg
    rw [List.length_append, List.length_append]
    simp only [List.length_singleton]
    omega
end Go.Proofs.YtojpjaifhjigfabGreatDoor

/- conduitkeep's run: submit, the walk. -/
namespace Go.Proofs.YtojpjaifhjigfabGreatDoor
open Go.RowKit Go.Maps

theorem runCells_15 (g cm : Nat) (c : Cfg) (fv wv : Value) (R : Rn) (n : Nat) : (runCells g cm c fv wv R).setIfInBounds 15 (.int .i64 n) = runCells g cm c fv wv { R with n := n } := by
  apply Array.ext'
  rw [Array.toList_setIfInBounds]
  rfl
theorem RunP.setN {w : World} {L : Labs} {gr g cm : Nat} {c : Cfg} {fv wv : Value} {R : Rn} (h : RunP w L gr g cm c fv wv R) (n : Nat) : RunP (w.setCell ⟨gr, 15, none⟩ (.int .i64 n)) L gr g cm c fv wv { R with n := n } ∧ Step (fun l => l = some (0, .ag)) L w L (w.setCell ⟨gr, 15, none⟩ (.int .i64 n)) := by
  have s1 : Step (fun l => l = some (0, .ag)) L w L (w.setCell ⟨gr, 15, none⟩ (.int .i64 n)) := Step.setCell _ _ _ _ h.blk.2
  refine ⟨⟨⟨?_, h.blk.2⟩, h.fa.keep s1 (by simp), h.wy.keep s1 (by simp)⟩, s1⟩
  have := h.blk.1.set 15 (.int .i64 n)
  rw [runCells_15] at this
  exact this
theorem runCells_12 (g cm : Nat) (c : Cfg) (fv fv' wv : Value) (R : Rn) (fs : List Fa) : (runCells g cm c fv wv R).setIfInBounds 12 fv' = runCells g cm c fv' wv { R with fs := fs } := by
  apply Array.ext'
  rw [Array.toList_setIfInBounds]
  rfl
/-- One fact more. -/
theorem facted_step {wc w2 : World} {o : Obj} {L : Labs} {gr g cm g2 cap2 : Nat} {c : Cfg} {fv wv : Value} {R : Rn} {f : Fa} (hP : RunP wc L gr g cm c fv wv R)
    (ho2 : w2.ownsRow 0 50 8 (.slice (some ⟨g2, 0, none⟩) (R.fs.length + 1) cap2) (R.fs.length + 1) (R.fs.flatMap Fa.cells ++ f.cells)) (hg2 : (wc.alloc o).drew.grownBy w2 fv.ownBlock) (hat2 : fv.ownBlock = some g2 ∨ g2 = wc.heap.size + 1) :
    ∃ L', RunAt (w2.setCell ⟨gr, 12, none⟩ (.slice (some ⟨g2, 0, none⟩) (R.fs.length + 1) cap2)) L' gr g cm c { R with fs := R.fs ++ [f] } ∧ Step (ofP 0) L wc L' (w2.setCell ⟨gr, 12, none⟩ (.slice (some ⟨g2, 0, none⟩) (R.fs.length + 1) cap2)) := by
  have s1 : Step (fun l => l = some (0, .tk)) L wc L (wc.alloc o).drew := (Step.alloc L wc o).trans (Step.drew L _)
  have s0 : Step (fun _ => False) L wc L (wc.alloc o).drew := (Step.alloc L wc o).trans (Step.drew L _)
  have a2' := hP.fa.keep s0 (fun h => h)
  obtain ⟨hr2, hl2⟩ := a2'.appended ho2 (hat2.imp_right (fun e => by simp; omega))
  have s2 : Step (fun l => l = some (0, .tk)) L wc (lay L g2 (some (0, .tk))) w2 := s1.trans (Step.of_grown hg2 (fun j hj => a2'.2 j hj) hl2)
  have b1 := hP.blk.keep s2 (by simp)
  have s3 : Step (fun l => l = some (0, .ag)) (lay L g2 (some (0, .tk))) w2 (lay L g2 (some (0, .tk))) (w2.setCell ⟨gr, 12, none⟩ (.slice (some ⟨g2, 0, none⟩) (R.fs.length + 1) cap2)) := Step.setCell _ _ _ _ b1.2
  refine ⟨lay L g2 (some (0, .tk)), ⟨.slice (some ⟨g2, 0, none⟩) (R.fs.length + 1) cap2, wv, ⟨?_, b1.2⟩, ?_, (hP.wy.keep s2 (by simp)).keep s3 (by simp)⟩, (step0 s2).trans (step0 s3)⟩
  · rw [← runCells_12 g cm c fv _ wv R (R.fs ++ [f])]
    exact b1.1.set 12 _
  · have := hr2.keep s3 (by simp)
    simpa [List.flatMap_append] using this
/-- Where the new batch lies. -/
def NewBat (wr : World) (p : Nat) (x : List UInt8) (n size : Nat) (v : Value) (wx : World) : Prop := ∃ gB, v = .pointer (some ⟨gB, 0, none⟩) ∧ Blk wx gB #[.int .i64 p, encStr x, encStr (kid n), encStr (kbody size)] 48 ∧ Below wr.heap.size wr wx ∧ wr.heap.size ≤ gB
def batZero : Array Value := #[.int .i64 0, .string ⟨#[]⟩, .string ⟨#[]⟩, .string ⟨#[]⟩]
/-- A call that makes but does not turn, ahead of it a new batch or none. -/
structure Zd (w2 : World) (gB : Nat) : Prop where
  x0 : w2.cell? ⟨gB, 0, none⟩ = some (.int .i64 0)
  x1 : w2.cell? ⟨gB, 1, none⟩ = some (.string ⟨#[]⟩)
  x2 : w2.cell? ⟨gB, 2, none⟩ = some (.string ⟨#[]⟩)
  x3 : w2.cell? ⟨gB, 3, none⟩ = some (.string ⟨#[]⟩)
  y0 : w2.frozen? ⟨gB, 0, none⟩ = false
  y1 : w2.frozen? ⟨gB, 1, none⟩ = false
  y2 : w2.frozen? ⟨gB, 2, none⟩ = false
  y3 : w2.frozen? ⟨gB, 3, none⟩ = false
theorem Zd.of {w2 : World} {gB : Nat} (h : Blk w2 gB batZero 48) : Zd w2 gB := ⟨h.cell 0, h.cell 1, h.cell 2, h.cell 3, h.frozen 0, h.frozen 1, h.frozen 2, h.frozen 3⟩
theorem zd_filled {wr w2 : World} {gB : Nat} (h : Blk w2 gB batZero 48) (hb : Below wr.heap.size wr w2) (hg : wr.heap.size ≤ gB) (p : Nat) (x : List UInt8) (n size : Nat) : NewBat wr p x n size (.pointer (some ⟨gB, 0, none⟩)) ((((w2.setCell ⟨gB, 0, none⟩ (.int .i64 p)).setCell ⟨gB, 1, none⟩ (encStr x)).setCell ⟨gB, 2, none⟩ (encStr (kid n))).setCell ⟨gB, 3, none⟩ (encStr (kbody size))) :=
  ⟨gB, rfl, (((h.set 0 _).set 1 _).set 2 _).set 3 _, (((hb.setCell hg _).setCell hg _).setCell hg _).setCell hg _, hg⟩
theorem NewBat.drew {wr wx : World} {p : Nat} {x : List UInt8} {n size : Nat} {v : Value} (h : NewBat wr p x n size v wx) : NewBat wr p x n size v wx.drew := by
  obtain ⟨gB, h1, h2, h3, h4⟩ := h
  exact ⟨gB, h1, h2, h3.drew, h4⟩
theorem below_alloc {w w1 : World} (h : Below w.heap.size w w1) (o : Obj) : Below w.heap.size w (w1.alloc o) := h.alloc h.size o
theorem zd_new {V w' : World} (h : Below (V.alloc (.cells batZero 48)).heap.size (V.alloc (.cells batZero 48)) w') : Blk w' V.heap.size batZero 48 := (Blk.new V _ _).below h (Blk.new V _ _).lt
end Go.Proofs.YtojpjaifhjigfabGreatDoor

/- conduitkeep's run: submit, the walk. -/
namespace Go.Proofs.YtojpjaifhjigfabGreatDoor
open Go.RowKit Go.Maps

theorem bl_trans {w W w' : World} (h : Below w.heap.size w W) (k : Below W.heap.size W w') : Below w.heap.size w w' := h.trans (k.mono h.size)
theorem zd_newD {V w' : World} (h : Below (V.alloc (.cells batZero 48)).drew.heap.size (V.alloc (.cells batZero 48)).drew w') : Blk w' V.heap.size batZero 48 := Blk.below (w := (V.alloc (.cells batZero 48)).drew) (Blk.new V _ _) h (Blk.new V _ _).lt
def NmAt (w : World) (gn : Nat) : Prop := Blk w gn #[encStr [97], encStr [98], encStr [99], encStr [100]] 9
theorem NmAt.cell {w : World} {gn q : Nat} (h : NmAt w gn) (hq : q < 4) : w.cell? ⟨gn, q, none⟩ = some (encStr (kn.getD q [])) := by
  rcases (by omega : q = 0 ∨ q = 1 ∨ q = 2 ∨ q = 3) with rfl | rfl | rfl | rfl
  · exact Blk.cell h 0
  · exact Blk.cell h 1
  · exact Blk.cell h 2
  · exact Blk.cell h 3
theorem rnames (W : World) : Calls Tryz.prog 18 #[] W fun e w' => ∃ gn, e = .returned (.slice (some ⟨gn, 0, none⟩) 4 4) ∧ Below W.heap.size W w' ∧ NmAt w' gn := by
  refine (knames_any W).mono ?_
  rintro e w' ⟨rfl, rfl⟩
  exact ⟨_, rfl, (Below.refl _ _).alloc (Nat.le_refl _) _, Blk.new W _ _⟩
/-- pick, of whatever it is asked. -/
theorem rpick (z : Int) (n : Nat) (W : World) (hz : InR z) (hn : 0 < n) : Calls Tryz.prog 16 #[.int .i64 z, .int .i64 n] W fun e w' => e = .returned (.int .i64 (pickN z n)) ∧ W = w' := (kpick_any z n W hz.1 hz.2 hn).mono (fun _ _ h => ⟨h.1, h.2.symm⟩)
/-- What the loads of submit's statement want. -/
structure SubS (w' : World) (gr cm dn N rn : Nat) : Prop where
  c1 : w'.cell? ⟨gr, 1, none⟩ = some (.int .i64 dn)
  c2 : w'.cell? ⟨gr, 2, none⟩ = some (.map (some cm))
  c15 : w'.cell? ⟨gr, 15, none⟩ = some (.int .i64 rn)
  ln : ∀ ty, (Builtin.len_ #[27] ty #[.map (some cm)]).run Tryz.prog w' = .ok (.int .i64 N) w'
structure SubT (w' : World) (gr cm dn N rn gn q : Nat) (x : List UInt8) : Prop where
  s : SubS w' gr cm dn N rn
  cn : w'.cell? ⟨gn, q, none⟩ = some (encStr x)
/-- A condition on the world may be made stronger on the way. -/
theorem wpAnyH_mono {P : Program} {md : Region.Mode} {ops : Array Oper} {Q : Exit → Act → World → Prop} {S S' : World → Prop} (h : ∀ w, S' w → S w) : ∀ (fuel : Nat) (listed : Array Bool) (a : Act) (w : World), wpAnyH P md ops Q S' fuel listed a w → wpAnyH P md ops Q S fuel listed a w
  | 0, _, _, _, k => k
  | fuel + 1, _, _, _, k => ⟨k.1, fun i hi => wpOp_mono (fun a' w' h' => ⟨h _ h'.1, wpAnyH_mono h fuel _ a' w' h'.2⟩) (k.2 i hi)⟩
theorem held_on {K : Act → World → Prop} {S : World → Prop} {X : Act → World → Prop} (hK : Shut (∀ a w, S w → (S w → X a w) → K a w)) {a : Act} {w : World} (hS : S w) (h : ∀ W, W = w → X a W) : K a w := hK.out a w hS (fun _ => h w rfl)
theorem zd_below {wr w2 : World} {gB : Nat} (hb : Below wr.heap.size wr w2) (hg : wr.heap.size ≤ gB) (v0 v1 v2 v3 : Value) : Below wr.heap.size wr ((((w2.setCell ⟨gB, 0, none⟩ v0).setCell ⟨gB, 1, none⟩ v1).setCell ⟨gB, 2, none⟩ v2).setCell ⟨gB, 3, none⟩ v3) :=
  (((hb.setCell hg _).setCell hg _).setCell hg _).setCell hg _
theorem zd_names {w2 : World} {gn gB : Nat} (hn : NmAt w2 gn) (hz : Blk w2 gB batZero 48) (v0 v1 v2 v3 : Value) : NmAt ((((w2.setCell ⟨gB, 0, none⟩ v0).setCell ⟨gB, 1, none⟩ v1).setCell ⟨gB, 2, none⟩ v2).setCell ⟨gB, 3, none⟩ v3) gn := by
  have hne : gn ≠ gB := fun e => by
    subst e
    have h1 := Blk.cell hn 0
    have h2 := Blk.cell hz 0
    rw [h1] at h2
    simp [batZero, encStr] at h2
  have h1 := Blk.other hn ⟨gB, 0, none⟩ v0 (by simpa using hne)
  have h2 := Blk.other h1 ⟨gB, 1, none⟩ v1 (by simpa using hne)
  have h3 := Blk.other h2 ⟨gB, 2, none⟩ v2 (by simpa using hne)
  exact Blk.other h3 ⟨gB, 3, none⟩ v3 (by simpa using hne)
end Go.Proofs.YtojpjaifhjigfabGreatDoor
