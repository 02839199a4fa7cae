/- Steps of the proof (several texts in one): RunQ, RunStepQ, RunBegin, RunBegin2. -/
import Derived.Test.YtojpjaifhjigfabGreatDoorMTwo26
import Derived.Test.YtojpjaifhjigfabGreatDoorMTwo19

/- conduitkeep's run, with its agent told: played is a function of what it is given. -/
namespace Go.Proofs.YtojpjaifhjigfabGreatDoor
open Go.RowKit Go.Maps

/-- What a step makes of an agent and of the count of ids. -/
def subP (zs : List Int) (N : Nat) (p : Ag × Nat) (dI tI : Int) (size : Nat) : Ag × Nat := if p.2 < 100 then (p.1.submitted (rbat (pickN dI (madeC zs).d.toNat) (pickN tI N) p.2 size), p.2 + 1) else p
def repP (p : Ag × Nat) (d : Nat) (good : Bool) (draw : Int) : Ag × Nat := match p.1.os[d]? with
  | some o => if o.way = -1 then p else (p.1.replied d good draw, p.2)
  | none => p
def stepP (zs : List Int) (N : Nat) (p : Ag × Nat) (s : St) : Ag × Nat :=
  if s.k = 1 then subP zs N p s.d s.t (pickN s.n 64) else if s.k = 2 then ((p.1.ticked (pickN s.n 100) (pickN s.t 1000000)).1, p.2) else if s.k = 3 then repP p (pickN s.d (madeC zs).d.toNat) s.good (pickN s.n 1000000) else if s.k = 4 then (p.1.crashed, p.2) else p
def RunQ (w : World) (zs : List Int) (N t gr : Nat) (p : Ag × Nat) (w' : World) : Prop := ∃ g cm R L, RK w w' L gr g cm zs N R p.1 t ∧ R.n = p.2
theorem RunQ.mono {w : World} {zs : List Int} {N t t' gr : Nat} {p : Ag × Nat} {w' : World} (h : RunQ w zs N t gr p w') (ht : t ≤ t') : RunQ w zs N t' gr p w' := by
  obtain ⟨g, cm, R, L, h1, h2⟩ := h
  exact ⟨g, cm, R, L, h1.mono ht, h2⟩
theorem RunQ.below {w : World} {zs : List Int} {N t gr : Nat} {p : Ag × Nat} {wr w' : World} (h : RunQ w zs N t gr p wr) (hb : Below wr.heap.size wr w') : RunQ w zs N t gr p w' := by
  obtain ⟨g, cm, R, L, k1, k2⟩ := h
  exact ⟨g, cm, R, L, k1.same (k1.at'.keep (Step.of_below (p := fun _ => False) hb) (fun _ h => h)) (k1.ag.keep (Step.of_below (p := fun _ => False) hb) (fun _ h => h)) (Step.of_below hb), k2⟩
theorem RunQ.b {w : World} {zs : List Int} {N t gr : Nat} {p : Ag × Nat} {wr : World} (h : RunQ w zs N t gr p wr) : Below w.heap.size w wr := by
  obtain ⟨g, cm, R, L, k1, k2⟩ := h
  exact k1.b
theorem RunQ.cell1 {w : World} {zs : List Int} {N t gr : Nat} {p : Ag × Nat} {wr : World} (h : RunQ w zs N t gr p wr) : wr.cell? ⟨gr, 1, none⟩ = some (.int .i64 (madeC zs).d) := by
  obtain ⟨g, cm, R, L, k1, k2⟩ := h
  obtain ⟨fv, wv, hP⟩ := k1.at'
  exact hP.blk.1.cell 1
theorem RunQ.ok {w : World} {zs : List Int} {N t gr : Nat} {p : Ag × Nat} {wr : World} (h : RunQ w zs N t gr p wr) : wr.cell? ⟨gr, 16, none⟩ = some (.bool true) := by
  obtain ⟨g, cm, R, L, k1, k2⟩ := h
  obtain ⟨fv, wv, hP⟩ := k1.at'
  exact hP.blk.1.cell 16
theorem sub_q (A : Nat → Addr) (w wr : World) (gr : Nat) (zs : List Int) (N : Nat) (t : Nat) (p : Ag × Nat) (dI tI : Int) (size : Nat) (hN : N = 1 + pickN (zs.getD 9 0) 4) (hS : Sents.Holds w 197 gl 11 A) (h : RunQ w zs N t gr p wr) (ht : t + 10 ≤ 4000000000000) (hd : -9223372036854775808 ≤ dI ∧ dI ≤ 9223372036854775807) (htI : -9223372036854775808 ≤ tI ∧ tI ≤ 9223372036854775807) (hs : size ≤ 63) :
    Calls Tryz.prog 24 #[.pointer (some ⟨gr, 0, none⟩), .int .i64 dI, .int .i64 tI, .int .i64 size] wr fun e w' => e = .returned (.tuple #[]) ∧ RunQ w zs N (t + 1) gr (subP zs N p dI tI size) w' := by
  obtain ⟨g, cm, R, L, h1, h2⟩ := h
  unfold subP
  rw [← h2]
  by_cases hn : R.n < 100
  · rw [if_pos hn]
    refine (rsub_any A w wr L gr g cm zs N R p.1 t dI tI size hN hS h1 ht hn hd htI hs).mono ?_
    rintro e w' ⟨rfl, L', q⟩
    exact ⟨rfl, g, cm, _, L', q, rfl⟩
  · rw [if_neg hn]
    refine (rsub_full w wr L gr g cm zs N R p.1 t dI tI size h1 hn).mono ?_
    rintro e w' ⟨rfl, rfl⟩
    exact ⟨rfl, g, cm, R, L, h1.mono (by omega), h2⟩
theorem tick_q (w wr : World) (gr : Nat) (zs : List Int) (N : Nat) (t : Nat) (p : Ag × Nat) (ms draw : Int) (h : RunQ w zs N t gr p wr) (ht : t + 10 ≤ 4000000000000) (h0 : 0 ≤ ms) (h1 : ms ≤ 60000) (hd : 0 ≤ draw) :
    Calls Tryz.prog 25 #[.pointer (some ⟨gr, 0, none⟩), .int .i64 ms, .int .i64 draw] wr fun e w' => ∃ v, e = .returned v ∧ RunQ w zs N (t + 1) gr ((p.1.ticked ms draw).1, p.2) w' := by
  obtain ⟨g, cm, R, L, k1, k2⟩ := h
  refine (rtick_any w wr L gr g cm zs N R p.1 t ms draw k1 ht h0 h1 hd).mono ?_
  rintro e w' ⟨v, R', L', rfl, _, q, hn⟩
  exact ⟨v, rfl, g, cm, R', L', q, hn.trans k2⟩
theorem reply_q (A : Nat → Addr) (w wr : World) (gr : Nat) (zs : List Int) (N : Nat) (t d : Nat) (p : Ag × Nat) (good : Bool) (draw : Int) (hS : Sents.Holds w 197 gl 11 A) (h : RunQ w zs N t gr p wr) (ht : t + 10 ≤ 4000000000000) (hdl : (d : Int) < (madeC zs).d) (hd : 0 ≤ draw) :
    Calls Tryz.prog 26 #[.pointer (some ⟨gr, 0, none⟩), .int .i64 d, .bool good, .int .i64 draw] wr fun e w' => e = .returned (.tuple #[]) ∧ RunQ w zs N (t + 1) gr (repP p d good draw) w' := by
  obtain ⟨g, cm, R, L, k1, k2⟩ := h
  have hol := k1.inv.ol
  rw [k1.c] at hol
  obtain ⟨o, ho⟩ : ∃ o, p.1.os[d]? = some o := ⟨_, List.getElem?_eq_getElem (by omega)⟩
  unfold repP
  rw [ho]
  simp only
  by_cases hw : o.way = -1
  · rw [if_pos hw]
    refine (rreply_stale A w wr L gr g cm zs N R p.1 t d o good draw hS k1 hd ho hw).mono ?_
    rintro e w' ⟨rfl, q⟩
    exact ⟨rfl, g, cm, R, L, q.mono (by omega), k2⟩
  · rw [if_neg hw]
    refine (rreply_live w wr L gr g cm zs N R p.1 t d o good draw k1 ht hd ho hw).mono ?_
    rintro e w' ⟨rfl, R', L', q, hn⟩
    exact ⟨rfl, g, cm, R', L', q, hn.trans k2⟩
theorem crash_q (A : Nat → Addr) (w wr : World) (gr : Nat) (zs : List Int) (N : Nat) (t : Nat) (p : Ag × Nat) (hN : N = 1 + pickN (zs.getD 9 0) 4) (hS : Sents.Holds w 197 gl 11 A) (h : RunQ w zs N t gr p wr) (ht : t + 10 ≤ 4000000000000) :
    Calls Tryz.prog 27 #[.pointer (some ⟨gr, 0, none⟩)] wr fun e w' => e = .returned (.tuple #[]) ∧ RunQ w zs N (t + 1) gr (p.1.crashed, p.2) w' := by
  obtain ⟨g, cm, R, L, k1, k2⟩ := h
  refine (rcrash_any A w wr L gr g cm zs N R p.1 t hN hS k1 ht).mono ?_
  rintro e w' ⟨rfl, g', R', L', q, hn⟩
  exact ⟨rfl, g', cm, R', L', q.mono (by omega), hn.trans k2⟩
end Go.Proofs.YtojpjaifhjigfabGreatDoor

/- conduitkeep's run: one step, its agent told. -/
namespace Go.Proofs.YtojpjaifhjigfabGreatDoor
open Go.RowKit Go.Maps

set_option maxRecDepth 100000 in
set_option maxHeartbeats 8000000 in
theorem kstep_q (A : Nat → Addr) (w wr : World) (gr : Nat) (zs : List Int) (N : Nat) (t : Nat) (p : Ag × Nat) (s : St) (hN : N = 1 + pickN (zs.getD 9 0) 4) (hS : Sents.Holds w 197 gl 11 A) (h : RunQ w zs N t gr p wr) (ht : t + 10 ≤ 4000000000000) (hs : s.Ok) :
    Calls Tryz.prog 14 #[.pointer (some ⟨gr, 0, none⟩), .agg s.cells.toArray] wr fun e w' => e = .returned (.tuple #[]) ∧ RunQ w zs N (t + 1) gr (stepP zs N p s) w' := by
  have hcfg := Cfg.ok (made_good zs).1
  obtain ⟨dn, hdn⟩ : ∃ dn : Nat, (madeC zs).d = dn := ⟨(madeC zs).d.toNat, by have := hcfg.d; omega⟩
  have hdn1 : 1 ≤ dn := by have := hcfg.d; omega
  have hdt : (madeC zs).d.toNat = dn := by rw [hdn]; rfl
  obtain ⟨sk, sd, st, sn, sg⟩ := s
  have hd := hs.d
  have ht' := hs.t
  have hn := hs.n
  simp only at hd ht' hn
  obtain ⟨p1, hp1⟩ : ∃ p, pickN sd dn = p := ⟨_, rfl⟩
  obtain ⟨p64, hp64⟩ : ∃ p, pickN sn 64 = p := ⟨_, rfl⟩
  obtain ⟨p100, hp100⟩ : ∃ p, pickN sn 100 = p := ⟨_, rfl⟩
  obtain ⟨pt, hpt⟩ : ∃ p, pickN st 1000000 = p := ⟨_, rfl⟩
  obtain ⟨pn, hpn⟩ : ∃ p, pickN sn 1000000 = p := ⟨_, rfl⟩
  have b1 : p1 < dn := by rw [← hp1]; exact pickN_lt _ (by omega)
  have b64 : p64 < 64 := by rw [← hp64]; exact pickN_lt _ (by omega)
  have b100 : p100 < 100 := by rw [← hp100]; exact pickN_lt _ (by omega)
  have HPk1 : Hid (∀ W, Calls Tryz.prog 16 #[.int .i64 sd, .int .i64 dn] W fun e w' => e = .returned (.int .i64 p1) ∧ W = w') := fun W => by rw [← hp1]; exact (kpick_any sd dn W hd.1 hd.2 (by omega)).mono (fun e w' h => ⟨h.1, h.2.symm⟩)
  have HPk64 : Hid (∀ W, Calls Tryz.prog 16 #[.int .i64 sn, .int .i64 64] W fun e w' => e = .returned (.int .i64 p64) ∧ W = w') := fun W => by rw [← hp64]; exact (kpick_any sn 64 W hn.1 hn.2 (by omega)).mono (fun e w' h => ⟨h.1, h.2.symm⟩)
  have HPk100 : Hid (∀ W, Calls Tryz.prog 16 #[.int .i64 sn, .int .i64 100] W fun e w' => e = .returned (.int .i64 p100) ∧ W = w') := fun W => by rw [← hp100]; exact (kpick_any sn 100 W hn.1 hn.2 (by omega)).mono (fun e w' h => ⟨h.1, h.2.symm⟩)
  have HPkt : Hid (∀ W, Calls Tryz.prog 16 #[.int .i64 st, .int .i64 1000000] W fun e w' => e = .returned (.int .i64 pt) ∧ W = w') := fun W => by rw [← hpt]; exact (kpick_any st 1000000 W ht'.1 ht'.2 (by omega)).mono (fun e w' h => ⟨h.1, h.2.symm⟩)
  have HPkn : Hid (∀ W, Calls Tryz.prog 16 #[.int .i64 sn, .int .i64 1000000] W fun e w' => e = .returned (.int .i64 pn) ∧ W = w') := fun W => by rw [← hpn]; exact (kpick_any sn 1000000 W hn.1 hn.2 (by omega)).mono (fun e w' h => ⟨h.1, h.2.symm⟩)
  have HSub := hide (fun W (hW : RunQ w zs N t gr p W) => (by rw [hp64]; exact sub_q A w W gr zs N t p sd st p64 hN hS hW ht hd ht' (by omega) : Calls Tryz.prog 24 #[.pointer (some ⟨gr, 0, none⟩), .int .i64 sd, .int .i64 st, .int .i64 p64] W fun e w' => e = .returned (.tuple #[]) ∧ RunQ w zs N (t + 1) gr (subP zs N p sd st (pickN sn 64)) w'))
  have HTk := hide (fun W (hW : RunQ w zs N t gr p W) => (by rw [hp100, hpt]; exact tick_q w W gr zs N t p p100 pt hW ht (by omega) (by omega) (by omega) : Calls Tryz.prog 25 #[.pointer (some ⟨gr, 0, none⟩), .int .i64 p100, .int .i64 pt] W fun e w' => ∃ v, e = .returned v ∧ RunQ w zs N (t + 1) gr ((p.1.ticked (pickN sn 100) (pickN st 1000000)).1, p.2) w'))
  have HRp := hide (fun W (hW : RunQ w zs N t gr p W) => (by rw [hdt, hp1, hpn]; exact reply_q A w W gr zs N t p1 p sg pn hS hW ht (by rw [hdn]; omega) (by omega) : Calls Tryz.prog 26 #[.pointer (some ⟨gr, 0, none⟩), .int .i64 p1, .bool sg, .int .i64 pn] W fun e w' => e = .returned (.tuple #[]) ∧ RunQ w zs N (t + 1) gr (repP p (pickN sd (madeC zs).d.toNat) sg (pickN sn 1000000)) w'))
  have HCr := hide (fun W (hW : RunQ w zs N t gr p W) => crash_q A w W gr zs N t p hN hS hW ht)
  have H := hide h
  have Hdn := hide hdn
  clear h hs hS hdn hp1 hp64 hp100 hpt hpn hd ht' hn hcfg hN hdt
  show Calls Tryz.prog 14 #[.pointer (some ⟨gr, 0, none⟩), .agg #[.int .i64 sk, .int .i64 sd, .int .i64 st, .int .i64 sn, .bool sg]] wr _
  go_enter Tryz.func14, Tryz.ntmps14
  go_wp2_with fail
  generalize hW0 : World.alloc wr _ = W0
  have hb0 : Below wr.heap.size wr W0 := by rw [← hW0]; exact (Below.refl _ _).alloc (Nat.le_refl _) _
  have hB0 : Blk W0 wr.heap.size #[.int .i64 sk, .int .i64 sd, .int .i64 st, .int .i64 sn, .bool sg] 57 := by rw [← hW0]; exact Blk.new wr _ _
  have H0 := hide (H.out.below hb0)
  have HB0 := hide hB0
  clear hW0 hb0 hB0 H
  generalize wr.heap.size = gs at *
  have c1 : W0.cell? ⟨gr, 1, none⟩ = some (.int .i64 dn) := by rw [← Hdn.out]; exact H0.out.cell1
  have s1 : W0.cell? ⟨gs, 1, none⟩ = some (.int .i64 sd) := HB0.out.cell 1
  have s0 : W0.cell? ⟨gs, 0, none⟩ = some (.int .i64 sk) := HB0.out.cell 0
  by_cases h1 : sk = 1
  · subst h1
    go_quiet ((go_at_call 16; exact Calls.quiet_of_same ((HPk1.out _).mono (fun e w' h => ⟨h.1, h.2.symm⟩))))
    go_wp2_with fail
    have H1 : Hid (RunQ w zs N t gr p (W0.drewN nq)) := H0.out.below (below_drewN' W0 nq)
    have HB1 : Hid (Blk (W0.drewN nq) gs #[.int .i64 1, .int .i64 sd, .int .i64 st, .int .i64 sn, .bool sg] 57) := HB0.out
    clear c1 s1 s0 H0 HB0
    generalize W0.drewN nq = V at *
    have s1 : V.cell? ⟨gs, 1, none⟩ = some (.int .i64 sd) := HB1.out.cell 1
    have s2 : V.cell? ⟨gs, 2, none⟩ = some (.int .i64 st) := HB1.out.cell 2
    have s3 : V.cell? ⟨gs, 3, none⟩ = some (.int .i64 sn) := HB1.out.cell 3
    have s4 : V.cell? ⟨gs, 4, none⟩ = some (.bool sg) := HB1.out.cell 4
    have HD : Hid (RunQ w zs N t gr p V.drew) := H1.out.below (Below.refl _ _).drew
    go_region_with (first
      | (go_at_call 16; refine (HPk64.out _).mono ?_; rintro _ _ ⟨rfl, rfl⟩)
      | (go_at_call 24; refine (HSub.out _ HD.out).mono ?_; rintro _ w2 ⟨rfl, hR⟩; have HR2 := hide hR; clear hR))
    all_goals
      go_wp2_with fail
      first | go_end0 | refine bodyPost_ret (results_none rfl _ _ _) rfl ?_
      exact ⟨rfl, by unfold stepP; simp only [if_true]; exact HR2.out⟩
  have h1b : (sk == 1) = false := by simpa using h1
  by_cases h2 : sk = 2
  · subst h2
    go_quiet ((go_at_call 16; exact Calls.quiet_of_same ((HPk1.out _).mono (fun e w' h => ⟨h.1, h.2.symm⟩))))
    go_wp2_with fail
    have H1 : Hid (RunQ w zs N t gr p (W0.drewN nq)) := H0.out.below (below_drewN' W0 nq)
    have HB1 : Hid (Blk (W0.drewN nq) gs #[.int .i64 2, .int .i64 sd, .int .i64 st, .int .i64 sn, .bool sg] 57) := HB0.out
    clear c1 s1 s0 H0 HB0
    generalize W0.drewN nq = V at *
    have s1 : V.cell? ⟨gs, 1, none⟩ = some (.int .i64 sd) := HB1.out.cell 1
    have s2 : V.cell? ⟨gs, 2, none⟩ = some (.int .i64 st) := HB1.out.cell 2
    have s3 : V.cell? ⟨gs, 3, none⟩ = some (.int .i64 sn) := HB1.out.cell 3
    have s4 : V.cell? ⟨gs, 4, none⟩ = some (.bool sg) := HB1.out.cell 4
    have HD : Hid (RunQ w zs N t gr p V.drew) := H1.out.below (Below.refl _ _).drew
    go_region_with (first
      | (go_at_call_of 16 (Value.int IntKind.i64 sn); refine (HPk100.out _).mono ?_; rintro _ _ ⟨rfl, rfl⟩)
      | (go_at_call_of 16 (Value.int IntKind.i64 st); refine (HPkt.out _).mono ?_; rintro _ _ ⟨rfl, rfl⟩)
      | (go_at_call 25; refine (HTk.out _ HD.out).mono ?_; rintro _ w2 ⟨v2, rfl, hR⟩; have HR2 := hide hR; clear hR))
    all_goals
      go_wp2_with fail
      first | go_end0 | refine bodyPost_ret (results_none rfl _ _ _) rfl ?_
      exact ⟨rfl, by unfold stepP; simp only [show ¬ ((2 : Int) = 1) from by omega, if_false, if_true]; exact HR2.out⟩
  have h2b : (sk == 2) = false := by simpa using h2
  by_cases h3 : sk = 3
  · subst h3
    go_quiet ((go_at_call 16; exact Calls.quiet_of_same ((HPk1.out _).mono (fun e w' h => ⟨h.1, h.2.symm⟩))))
    go_wp2_with fail
    have H1 : Hid (RunQ w zs N t gr p (W0.drewN nq)) := H0.out.below (below_drewN' W0 nq)
    have HB1 : Hid (Blk (W0.drewN nq) gs #[.int .i64 3, .int .i64 sd, .int .i64 st, .int .i64 sn, .bool sg] 57) := HB0.out
    clear c1 s1 s0 H0 HB0
    generalize W0.drewN nq = V at *
    have s1 : V.cell? ⟨gs, 1, none⟩ = some (.int .i64 sd) := HB1.out.cell 1
    have s2 : V.cell? ⟨gs, 2, none⟩ = some (.int .i64 st) := HB1.out.cell 2
    have s3 : V.cell? ⟨gs, 3, none⟩ = some (.int .i64 sn) := HB1.out.cell 3
    have s4 : V.cell? ⟨gs, 4, none⟩ = some (.bool sg) := HB1.out.cell 4
    have HD : Hid (RunQ w zs N t gr p V.drew) := H1.out.below (Below.refl _ _).drew
    go_region_with (first
      | (go_at_call 16; refine (HPkn.out _).mono ?_; rintro _ _ ⟨rfl, rfl⟩)
      | (go_at_call 26; refine (HRp.out _ HD.out).mono ?_; rintro _ w2 ⟨rfl, hR⟩; have HR2 := hide hR; clear hR))
    all_goals
      go_wp2_with fail
      first | go_end0 | refine bodyPost_ret (results_none rfl _ _ _) rfl ?_
      exact ⟨rfl, by unfold stepP; simp only [show ¬ ((3 : Int) = 1) from by omega, show ¬ ((3 : Int) = 2) from by omega, if_false, if_true]; exact HR2.out⟩
  have h3b : (sk == 3) = false := by simpa using h3
  by_cases h4 : sk = 4
  · subst h4
    go_quiet ((go_at_call 16; exact Calls.quiet_of_same ((HPk1.out _).mono (fun e w' h => ⟨h.1, h.2.symm⟩))))
    go_wp2_with fail
    have H1 : Hid (RunQ w zs N t gr p (W0.drewN nq)) := H0.out.below (below_drewN' W0 nq)
    have HB1 : Hid (Blk (W0.drewN nq) gs #[.int .i64 4, .int .i64 sd, .int .i64 st, .int .i64 sn, .bool sg] 57) := HB0.out
    clear c1 s1 s0 H0 HB0
    generalize W0.drewN nq = V at *
    refine (HCr.out _ H1.out).mono ?_
    rintro _ w2 ⟨rfl, hR⟩
    have HR2 := hide hR
    clear hR
    go_wp2_with fail
    first | go_end0 | refine bodyPost_ret (results_none rfl _ _ _) rfl ?_
    exact ⟨rfl, by unfold stepP; simp only [show ¬ ((4 : Int) = 1) from by omega, show ¬ ((4 : Int) = 2) from by omega, show ¬ ((4 : Int) = 3) from by omega, if_false, if_true]; exact HR2.out⟩
  have h4b : (sk == 4) = false := by simpa using h4
  go_quiet ((go_at_call 16; exact Calls.quiet_of_same ((HPk1.out _).mono (fun e w' h => ⟨h.1, h.2.symm⟩))))
  go_wp2_with fail
  have H1 : Hid (RunQ w zs N t gr p (W0.drewN nq)) := H0.out.below (below_drewN' W0 nq)
  first | go_end0 | refine bodyPost_ret (results_none rfl _ _ _) rfl ?_
  exact ⟨rfl, by unfold stepP; simp only [h1, h2, h3, h4, if_false]; exact H1.out.mono (Nat.le_succ t)⟩
end Go.Proofs.YtojpjaifhjigfabGreatDoor

/- conduitkeep's run: how it begins, as plain data. -/
namespace Go.Proofs.YtojpjaifhjigfabGreatDoor
open Go.RowKit Go.Maps

def Rn.new (dn : Nat) : Rn := ⟨[], List.replicate dn ⟨-1, 0, 0⟩, 0, 0⟩
theorem RK.start {w wr : World} {L : Labs} {gr g cm : Nat} {zs : List Int} {N n dn : Nat} (hN : N = 1 + pickN (zs.getD 9 0) 4) (hdn : (madeC zs).d = dn) (hM : OM wr cm n (DT (madeT zs N))) {ns : List (List UInt8)} (hp : ns.Perm (strKeys (DT (madeT zs N)))) (hns : ns = kn.take N) (hR : RunAt wr L gr g cm (madeC zs) (Rn.new dn)) (hA : AgentAt wr L 1 g (Ag.new (madeC zs) (DT (madeT zs N)) ns)) (hB : RB w wr L cm zs N) : RK w wr L gr g cm zs N (Rn.new dn) (Ag.new (madeC zs) (DT (madeT zs N)) ns) 0 := by
  have hg := made_good zs
  rw [← hN] at hg
  refine ⟨hR, hA, hB.cm, hB.lo, hB.b, ⟨rfl, ?_, fun d y o hy ho => ?_, fun i f r b hf => (by cases hf), rfl, fun i f b hf => (by cases hf)⟩, rfl, fun i b hb => (by cases hb), rfl, Nat.zero_le _, inv_new hM hg hp, linv_new _ _ _ (by show (0 : Int) ≤ 100; omega), rfl, rfl, hns, fun f hf => (by cases hf), Nat.zero_le _⟩
  · show (List.replicate dn _).length = (List.replicate (madeC zs).d.toNat _).length
    rw [List.length_replicate, List.length_replicate, hdn]
    rfl
  · have e1 := (List.mem_replicate.1 (List.mem_of_getElem? hy)).2
    have e2 := (List.mem_replicate.1 (List.mem_of_getElem? ho)).2
    rw [e1, e2]
    exact ⟨rfl, rfl, fun hh => absurd rfl hh⟩
/-- The first batch goes out at once, and alone. -/
structure FirstGo (M : Ag) : Prop where
  one : (M.ticked 0 0).2.length = 1
  way : ∃ o, (M.ticked 0 0).1.os[0]? = some o ∧ o.way ≠ -1
theorem sentTo_goes {M : Ag} {d : Nat} {o : Out} (ho : M.os[d]? = some o) (hw : o.way = -1) (ht : o.trip = true → o.unt ≤ M.now) (hs : (M.sizes d).all (· == 0) = false) : (M.sentTo d).2.length = 1 ∧ ∃ o' : Out, (M.sentTo d).1.os[d]? = some o' ∧ o'.way ≠ -1 := by
  unfold Ag.sentTo
  rw [ho]
  simp only
  rw [if_neg (by
    rintro (h | ⟨h1, h2⟩ | h)
    · exact h hw
    · have := ht h1; omega
    · rw [hs] at h; cases h)]
  refine ⟨rfl, _, List.getElem?_set_self (List.getElem?_eq_some_iff.1 ho).1, ?_⟩
  show ((_ : Nat) : Int) ≠ -1
  omega
theorem sentTo_rests {M : Ag} {d : Nat} (hs : (M.sizes d).all (· == 0) = true) : (M.sentTo d).2 = [] := by
  unfold Ag.sentTo
  cases M.os[d]? with
  | none => rfl
  | some o => simp only; rw [if_pos (Or.inr (Or.inr hs))]
theorem first_go {zs : List Int} {N n dn cm : Nat} {wr : World} (hN : N = 1 + pickN (zs.getD 9 0) 4) (hdn : (madeC zs).d = dn) (hd1 : 1 ≤ dn) (hM : OM wr cm n (DT (madeT zs N))) {ns : List (List UInt8)} (hns : ns = kn.take N) (href : (Ag.new (madeC zs) (DT (madeT zs N)) ns).refusal (rbat 0 0 0 5) = 0) : FirstGo ((Ag.new (madeC zs) (DT (madeT zs N)) ns).submitted (rbat 0 0 0 5)) := by
  have h9 := pickN_lt (zs.getD 9 0) (n := 4) (by omega)
  have e : (Ag.new (madeC zs) (DT (madeT zs N)) ns).submitted (rbat 0 0 0 5) = (Ag.new (madeC zs) (DT (madeT zs N)) ns).taken (rbat 0 0 0 5) := by unfold Ag.submitted; rw [if_pos href]
  rw [e]
  obtain ⟨X, hX⟩ : ∃ X, ((Ag.new (madeC zs) (DT (madeT zs N)) ns).taken (rbat 0 0 0 5)).later 0 = X := ⟨_, rfl⟩
  have hos : X.os = List.replicate dn { res := 0, fl := 0, trip := false, unt := 0, turn := 0, cr := List.replicate ns.length 0, sends := 0, way := -1, began := 0 } := by
    rw [← hX]
    show List.replicate (madeC zs).d.toNat _ = _
    rw [hdn]
    rfl
  have hbs : X.bs = [rbat 0 0 0 5] := by rw [← hX]; rfl
  have hrt : X.rt = [⟨0, (madeC zs).ba⟩] := by rw [← hX]; rfl
  have hnow : X.now = 0 := by rw [← hX]; rfl
  have hXn : X.ns = ns := by rw [← hX]; rfl
  have ht : ((Ag.new (madeC zs) (DT (madeT zs N)) ns).taken (rbat 0 0 0 5)).ticked 0 0 = X.sentOut dn := by
    unfold Ag.ticked
    rw [hX, timed_idle (M := X) (fun d o ho => by rw [hos] at ho; rw [(List.mem_replicate.1 (List.mem_of_getElem? ho)).2]) 0]
    congr 1
    rw [hos, List.length_replicate]
  have ho0 : X.os[0]? = some { res := 0, fl := 0, trip := false, unt := 0, turn := 0, cr := List.replicate ns.length 0, sends := 0, way := -1, began := 0 } := by
    rw [hos, List.getElem?_replicate, if_pos (by omega)]
  obtain ⟨g1, o', g2, g3⟩ := sentTo_goes ho0 rfl (fun h => by cases h) (sizes_some (M := X) (d := 0) (b := rbat 0 0 0 5) (by rw [hbs]; simp) rfl rfl (by
      rw [hXn, hns]
      show kn.getD 0 [] ∈ kn.take N
      obtain ⟨m, rfl⟩ : ∃ m, N = m + 1 := ⟨N - 1, by omega⟩
      simp [kn]) (fun r hr => by rw [hrt] at hr; rw [List.mem_singleton.1 hr, hnow]; exact Int.le_refl _) (by omega))
  have hlen : ∀ k, (X.sentOut (k + 1)).2.length = 1 := fun k => by
    induction k with
    | zero => rw [sentOut_succ2]; show ([] ++ (X.sentTo 0).2).length = 1; rw [List.nil_append]; exact g1
    | succ k ih =>
      rw [sentOut_succ2, sentTo_rests (sizes_none (fun b hb _ => by rw [hbs] at hb; rw [List.mem_singleton.1 hb]; show (0 : Int) ≠ ((k + 1 : Nat) : Int); omega)), List.append_nil]
      exact ih
  refine ⟨?_, ?_⟩
  · rw [ht]
    obtain ⟨m, rfl⟩ : ∃ m, dn = m + 1 := ⟨dn - 1, by omega⟩
    exact hlen m
  · rw [ht, sentOut_at X dn 0 (by omega)]
    exact ⟨o', g2, g3⟩
/-- And is acked. -/
theorem RK.acked {w wr : World} {L : Labs} {gr g cm : Nat} {zs : List Int} {N : Nat} {R : Rn} {M : Ag} {t d : Nat} {o : Out} (hK : RK w wr L gr g cm zs N R M t) (ht : t + 1 ≤ 4000000000000) {draw : Int} (hd : 0 ≤ draw) (ho : M.os[d]? = some o) (hw : o.way ≠ -1) : ∃ (p : Nat) (b : Bat), o.way = p ∧ p < R.fs.length ∧ (M.replied d true draw).bs[p]? = some b ∧ b.st = 2 := by
  obtain ⟨p, f, h1, h2, h3⟩ := hK.repOk ht hd ho hw true
  obtain ⟨f', q1, q2⟩ := h3.fact
  refine ⟨p, f'.b, h1, (List.getElem?_eq_some_iff.1 h2).1, map_at h3.bs q1, ?_⟩
  rcases q2 with ⟨_, e⟩ | ⟨e, _⟩
  · exact e
  · cases e
end Go.Proofs.YtojpjaifhjigfabGreatDoor

/- conduitkeep's run: how it begins, the walk. -/
namespace Go.Proofs.YtojpjaifhjigfabGreatDoor
open Go.RowKit Go.Maps
attribute [local go_sem] run_store_float

theorem ropen0 (zs : List Int) (b n N : Nat) (hN : N = 1 + pickN (zs.getD 9 0) 4) (W : World) (hn : n ≤ 4) (hM : OM W b n (DT (madeT zs N))) :
    Calls Tryz.prog 10 #[(madeC zs).val (some b), .string ⟨#[]⟩] W fun e w' => ∃ g L ns, e = .returned (.tuple #[.pointer (some ⟨g, 0, none⟩), .nilIface]) ∧ ns.Perm (strKeys (DT (madeT zs N))) ∧ ns = kn.take N ∧ AgentAt w' L 1 g (Ag.new (madeC zs) (DT (madeT zs N)) ns) ∧ Below W.heap.size W w' ∧ (∀ k, k < W.heap.size → L k = none) ∧ ∀ k, w'.heap.size ≤ k → L k = none := by
  have h9 := pickN_lt (zs.getD 9 0) (n := 4) (by omega)
  have hg := made_good zs
  rw [← hN] at hg
  refine (open_good (fun _ => none) 1 (madeC zs) (some b) _ W (Or.inr ⟨b, n, rfl, hM, by unfold big; omega⟩) hg).mono ?_
  rintro e w' ⟨g, L', ns, rfl, h1, h2, h3, h4, _, h6, h7⟩
  exact ⟨g, L', ns, rfl, h2, names_eq zs (by omega) (by omega) h2 h3, h1, h4, h6, h7⟩
theorem runCells_13 (g cm : Nat) (c : Cfg) (fv wv wv' : Value) (R : Rn) (ws : List Wy) : (runCells g cm c fv wv R).setIfInBounds 13 wv' = runCells g cm c fv wv' { R with ws := ws } := by
  apply Array.ext'
  rw [Array.toList_setIfInBounds]
  rfl
/-- One way more. -/
theorem wayed_step {wc w2 : World} {o : Obj} {L : Labs} {gr g cm g2 cap2 : Nat} {c : Cfg} {fv wv : Value} {R : Rn} {y : Wy} (hP : RunP wc L gr g cm c fv wv R)
    (ho2 : w2.ownsRow 0 75 3 (.slice (some ⟨g2, 0, none⟩) (R.ws.length + 1) cap2) (R.ws.length + 1) (R.ws.flatMap Wy.cells ++ y.cells)) (hg2 : (wc.alloc o).grownBy w2 wv.ownBlock) (hat2 : wv.ownBlock = some g2 ∨ g2 = wc.heap.size + 1) :
    ∃ L', RunAt (w2.setCell ⟨gr, 13, none⟩ (.slice (some ⟨g2, 0, none⟩) (R.ws.length + 1) cap2)) L' gr g cm c { R with ws := R.ws ++ [y] } ∧ Step (ofP 0) L wc L' (w2.setCell ⟨gr, 13, none⟩ (.slice (some ⟨g2, 0, none⟩) (R.ws.length + 1) cap2)) := by
  have s1 : Step (fun l => l = some (0, .dd)) L wc L (wc.alloc o) := Step.alloc L wc o
  have s0 : Step (fun _ => False) L wc L (wc.alloc o) := Step.alloc L wc o
  have a2' := hP.wy.keep s0 (fun h => h)
  obtain ⟨hr2, hl2⟩ := a2'.appended ho2 (hat2.imp_right (fun e => by simp; omega))
  have s2 : Step (fun l => l = some (0, .dd)) L wc (lay L g2 (some (0, .dd))) w2 := s1.trans (Step.of_grown hg2 (fun j hj => a2'.2 j hj) hl2)
  have b1 := hP.blk.keep s2 (by simp)
  have s3 : Step (fun l => l = some (0, .ag)) (lay L g2 (some (0, .dd))) w2 (lay L g2 (some (0, .dd))) (w2.setCell ⟨gr, 13, none⟩ (.slice (some ⟨g2, 0, none⟩) (R.ws.length + 1) cap2)) := Step.setCell _ _ _ _ b1.2
  refine ⟨lay L g2 (some (0, .dd)), ⟨fv, .slice (some ⟨g2, 0, none⟩) (R.ws.length + 1) cap2, ⟨?_, b1.2⟩, (hP.fa.keep s2 (by simp)).keep s3 (by simp), ?_⟩, (step0 s2).trans (step0 s3)⟩
  · rw [← runCells_13 g cm c fv wv _ R (R.ws ++ [y])]
    exact b1.1.set 13 _
  · have := hr2.keep s3 (by simp)
    simpa [List.flatMap_append] using this
theorem infoWay3 : (Tryz.prog.info? 75).map (fun i => (i.zero, i.size, i.bytes)) = some (some (.agg #[.int .i64 0, .int .i64 0, .int .i64 0]), 3, 24) := by kernel_rfl
structure BegAt (w wr : World) (L : Labs) (gr gc g cm : Nat) (zs : List Int) (N k : Nat) (M0 : Ag) : Prop where
  run : RunAt wr L gr g cm (madeC zs) (Rn.new k)
  ag : AgentAt wr L 1 g M0
  rb : RB w wr L cm zs N
  cf : BlkAt wr L none gc ((madeC zs).cells (some cm)) 30
theorem BegAt.step {w wr w' : World} {L L' : Labs} {gr gc g cm : Nat} {zs : List Int} {N k k' : Nat} {M0 : Ag} (h : BegAt w wr L gr gc g cm zs N k M0) (hR : RunAt w' L' gr g cm (madeC zs) (Rn.new k')) (s : Step (ofP 0) L wr L' w') : BegAt w w' L' gr gc g cm zs N k' M0 :=
  ⟨hR, h.ag.keep s (fun q => not_ofP (by decide) q), h.rb.step (step_r0 s), h.cf.keep s (fun ⟨q, e⟩ => by cases e)⟩
theorem Rn.new_succ (k : Nat) : ({ Rn.new k with ws := (Rn.new k).ws ++ [⟨-1, 0, 0⟩] } : Rn) = Rn.new (k + 1) := by
  unfold Rn.new
  simp only [Rn.mk.injEq, true_and, and_true]
  rw [← List.replicate_succ']
/-- The run is made. -/
theorem beg_new {w w2 : World} {L : Labs} {gc g cm : Nat} {zs : List Int} {N : Nat} {M0 : Ag} (hA : AgentAt w2 L 1 g M0) (hB : RB w w2 L cm zs N) (hC : BlkAt w2 L none gc ((madeC zs).cells (some cm)) 30) {W3 : World} (hb : Below w2.heap.size w2 W3) (hG : Blk W3 w2.heap.size (runCells g cm (madeC zs) (.slice none 0 0) (.slice none 0 0) (Rn.new 0)) 34) :
    BegAt w W3 (lay L w2.heap.size (some (0, .ag))) w2.heap.size gc g cm zs N 0 M0 := by
  have s : Step (fun _ => False) L w2 (lay L w2.heap.size (some (0, .ag))) W3 := Step.of_below' hb (fun k hk => by rw [lay_other _ _ (by omega)])
  refine ⟨⟨_, _, ⟨⟨hG, lay_same _ _ _⟩, RowAt.nil _ _ _ _ _, RowAt.nil _ _ _ _ _⟩⟩, hA.keep s (fun _ h => h), hB.step (s.mono (fun _ h => h.elim)), hC.keep s (fun h => h)⟩
set_option maxRecDepth 100000 in
set_option maxHeartbeats 8000000 in
theorem kbegin_any (A : Nat → Addr) (la : Option Addr) (cap : Nat) (zs : List Int) (N : Nat) (hN : N = 1 + pickN (zs.getD 9 0) 4) (w : World) (hS : Sents.Holds w 197 gl 11 A) (hr : ∀ z ∈ zs, InR z) (h : IntsAt w la zs) :
    Calls Tryz.prog 13 #[.slice la zs.length cap] w fun e w' => ∃ gr, e = .returned (.pointer (some ⟨gr, 0, none⟩)) ∧ RunAny w zs N 3 gr w' := by
  have HMade := hide (made_any la cap zs w hr h)
  have HS := hide hS
  have hN1 : 1 ≤ N := by omega
  have hN4 : N ≤ 4 := by have := pickN_lt (zs.getD 9 0) (n := 4) (by omega); omega
  rw [← hN] at HMade
  have HN := hide hN
  have hcfg := Cfg.ok (made_good zs).1
  obtain ⟨dn, hdn⟩ : ∃ dn : Nat, (madeC zs).d = dn := ⟨(madeC zs).d.toNat, by have := hcfg.d; omega⟩
  have hdn1 : 1 ≤ dn := by have := hcfg.d; omega
  have hdn4 : dn ≤ 4 := by have := hcfg.d; omega
  have Hdn := hide hdn
  obtain ⟨i1, hi1, hy0, hy1, hy2⟩ := info_parts infoWay3
  generalize zs.length = nz at *
  clear h hr hS hN hcfg hdn
  go_enter Tryz.func13, Tryz.ntmps13
  go_wp2_with fail
  refine HMade.out.mono ?_
  rintro e w1 ⟨b, rfl, hb, ⟨n, hn, hM⟩, hB1⟩
  have HM := hide hM
  have HB1 := hide hB1
  clear hM hB1
  go_wp2_with fail
  generalize hW : World.alloc w1 _ = W
  have hC : Blk W w1.heap.size ((madeC zs).cells (some b)) 30 := by rw [← hW]; exact Blk.new w1 _ _
  have hBW : Below w.heap.size w W := by rw [← hW]; exact HB1.out.alloc HB1.out.size _
  have hMW : OM W b n (DT (madeT zs N)) := by rw [← hW]; exact HM.out.alloc _
  have HO := hide (ropen0 zs b n N HN.out W hn hMW)
  have HC := hide hC
  have HMW := hide hMW
  have HBW := hide hBW
  clear hW hC hBW hMW HM HB1
  generalize w1.heap.size = gc at *
  refine HO.out.mono ?_
  rintro e w2 ⟨g, L, ns, rfl, hp, hns, hA, hB2, hL2, hL3⟩
  have hC2 : BlkAt w2 L none gc ((madeC zs).cells (some b)) 30 := ⟨HC.out.below hB2 HC.out.lt, hL2 gc HC.out.lt⟩
  have HRB : Hid (RB w w2 L b zs N) := ⟨⟨n, hn, om_below HMW.out hB2 HMW.out.lt, hL2 b HMW.out.lt⟩, fun k hk => hL2 k (Nat.lt_of_lt_of_le hk HBW.out.size), HBW.out.trans (hB2.mono HBW.out.size)⟩
  have e0 : w2.cell? ⟨gc, 0, none⟩ = some (.int .i64 (madeC zs).d) := hC2.1.cell 0
  have e1 : w2.cell? ⟨gc, 1, none⟩ = some (.map (some b)) := hC2.1.cell 1
  have e2 : w2.cell? ⟨gc, 2, none⟩ = some (.int .i64 (madeC zs).q) := hC2.1.cell 2
  have e3 : w2.cell? ⟨gc, 3, none⟩ = some (.int .i64 (madeC zs).at') := hC2.1.cell 3
  have e4 : w2.cell? ⟨gc, 4, none⟩ = some (.int .i64 (madeC zs).ba) := hC2.1.cell 4
  have e5 : w2.cell? ⟨gc, 5, none⟩ = some (.int .i64 (madeC zs).ca) := hC2.1.cell 5
  have e6 : w2.cell? ⟨gc, 6, none⟩ = some (.int .i64 (madeC zs).ti) := hC2.1.cell 6
  have e7 : w2.cell? ⟨gc, 7, none⟩ = some (.int .i64 (madeC zs).wi) := hC2.1.cell 7
  have e8 : w2.cell? ⟨gc, 8, none⟩ = some (.int .i64 (madeC zs).le) := hC2.1.cell 8
  have e9 : w2.cell? ⟨gc, 9, none⟩ = some (.float .f64 (madeC zs).th) := hC2.1.cell 9
  have e10 : w2.cell? ⟨gc, 10, none⟩ = some (.int .i64 (madeC zs).op) := hC2.1.cell 10
  have HC2 := hide hC2
  have Hp := hide hp
  have Hns := hide hns
  have HA := hide hA
  clear hp hns hA hB2 hL2 hL3 hC2 HO HC HMW HBW
  generalize hcc : madeC zs = cc at e0 e1 e2 e3 e4 e5 e6 e7 e8 e9 e10
  have Hcc := hide hcc
  clear hcc
  go_wp2_with fail
  generalize hW3 : World.alloc w2 _ = W3
  have hb3 : Below w2.heap.size w2 W3 := by rw [← hW3]; exact (Below.refl _ _).alloc (Nat.le_refl _) _
  have hG3 : Blk W3 w2.heap.size (runCells g b (madeC zs) (.slice none 0 0) (.slice none 0 0) (Rn.new 0)) 34 := by rw [← hW3, Hcc.out]; exact Blk.new w2 _ _
  have HBeg := hide (beg_new HA.out HRB.out HC2.out hb3 hG3)
  clear hW3 hb3 hG3 e0 e1 e2 e3 e4 e5 e6 e7 e8 e9 e10 HA HRB HC2 Hcc
  generalize w2.heap.size = gr at *
  go_loopw [7] (fun i wr => ∃ (k : Nat) (L : Labs), k ≤ dn ∧ i = .int .i64 k ∧ BegAt w wr L gr gc g b zs N k (Ag.new (madeC zs) (DT (madeT zs N)) ns)) (fun i _ => dn - (intOf i).toNat)
  case atStart => exact ⟨0, _, Nat.zero_le _, rfl, HBeg.out⟩
  case round =>
    clear HBeg
    obtain ⟨k, L, hk, rfl, hBg⟩ := hrel
    have c0 : wr.cell? ⟨gc, 0, none⟩ = some (.int .i64 dn) := by have := hBg.cf.1.cell 0; rw [← Hdn.out]; exact this
    by_cases hlt : k < dn
    · have hltI : (k : Int) < (dn : Int) := by omega
      obtain ⟨fv, wv, hP⟩ := hBg.run
      have hwl : (Rn.new k).ws.length = k := by simp [Rn.new]
      obtain ⟨wa, wk, rfl, _⟩ := hP.wy.shape
      have c13 : wr.cell? ⟨gr, 13, none⟩ = some (.slice wa (Rn.new k).ws.length wk) := hP.blk.1.cell 13
      have HP := hide hP
      have HBg := hide hBg
      clear hP hBg
      generalize hln : (Rn.new k).ws.length = kn1 at *
      obtain rfl : k = kn1 := hwl.symm
      have Hln := hide hln
      have HRow : Hid (wr.ownsRow 0 75 3 (.slice wa k wk) k ((Rn.new k).ws.flatMap Wy.cells)) := by have q := HP.out.wy.1; rw [hln] at q; exact q
      have HWl : Hid (∀ q, (Value.slice wa k wk).ownBlock = some q → L q = some (0, .dd)) := fun q hq => HP.out.wy.2 q hq
      clear hln hwl
      go_wp2_with (first
        | (at_builtin; refine wpList_append_lies _ rfl _ _ 32 rfl 0 75 i1 (.agg #[.int .i64 0, .int .i64 0, .int .i64 0]) 3 24 Tryz.underlying32 hi1 hy0 hy1 hy2 rfl (by decide) (.slice wa k wk) k ((Rn.new k).ws.flatMap Wy.cells) rfl (HRow.out.alloc _) ⟨wr.heap.size, 0, none⟩ 1 1 (Wy.cells ⟨-1, 0, 0⟩) rfl rfl (World.news_of_block (cs := (Wy.cells ⟨-1, 0, 0⟩).toArray) (t := 75) (fr := (0, 0)) (heap_alloc_new wr _)) (by simp [Value.oneCell', Wy.cells]) (by decide) (by unfold maxLen; omega) (by omega) (Nat.zero_le _) (wr.heap.size + 1) (by simp) ?_; intro g3 cap3 w3 hown3 hg3 hat3 hlt3; have hBk := Blk.grown (HP.out.blk.1.alloc _) hg3 (fun e => by have := HWl.out gr e.symm; rw [HP.out.blk.2] at this; simp at this); have z13 := hBk.cell 13; have y13 := hBk.frozen 13; simp [runCells] at z13; have Ho3 := hide hown3; have Hg3 := hide hg3; have Hat3 := hide hat3; clear hown3 hg3 hat3 hBk)
        | fail)
      have HW : Hid (∃ L', RunAt (w3.setCell ⟨gr, 13, none⟩ (.slice (some ⟨g3, 0, none⟩) (k + 1) cap3)) L' gr g b (madeC zs) (Rn.new (k + 1)) ∧ Step (ofP 0) L wr L' (w3.setCell ⟨gr, 13, none⟩ (.slice (some ⟨g3, 0, none⟩) (k + 1) cap3))) := by
        have q := wayed_step (y := ⟨-1, 0, 0⟩) HP.out (by rw [Hln.out]; exact Ho3.out) Hg3.out Hat3.out
        rw [Rn.new_succ, Hln.out] at q
        exact q
      go_roundw
      case rel =>
        obtain ⟨L', q1, q2⟩ := HW.out
        exact ⟨k + 1, L', by omega, by go_num, HBg.out.step q1 q2⟩
      case measure => simp [intOf]; omega
    · obtain rfl : dn = k := by omega
      have hltI : ¬ ((dn : Int) < (dn : Int)) := by omega
      obtain ⟨mn, hmn, hOM, _⟩ := hBg.rb.cm
      have hK0 := RK.start (w := w) HN.out Hdn.out hOM Hp.out Hns.out hBg.run hBg.ag hBg.rb
      have href := hK0.subOk (by show 0 < 100; omega) (d := 0) (tn := 0) (size := 5) (by rw [Hdn.out]; omega) (by omega) hN4 (by omega)
      have hFG := first_go HN.out Hdn.out hdn1 hOM Hns.out href
      have hpi := (PInv.new (ns := ns) (show GoodC (madeC zs) (DT (madeT zs N)) from by have := made_good zs; rw [← HN.out] at this; exact this)).submitted hK0.inv (rbat 0 0 0 5)
      have HSub := hide (rsub_any A w wr L gr g b zs N _ _ 0 0 0 5 HN.out HS.out hK0 (by omega) (by show 0 < 100; omega) (by omega) (by omega) (by omega))
      have HFG := hide hFG
      have Hpi := hide hpi
      clear hBg hOM hK0 href hFG hpi
      go_wp2_with fail
      refine HSub.out.mono ?_
      rintro e w4 ⟨rfl, L4, hK4⟩
      have hp0 : pickN 0 (madeC zs).d.toNat = 0 := by simp [pickN]
      have hp1 : pickN 0 N = 0 := by simp [pickN]
      rw [hp0, hp1] at hK4
      have hK4' : RK w w4 L4 gr g b zs N ((Rn.new dn).more (rbat 0 0 0 5)) ((Ag.new (madeC zs) (DT (madeT zs N)) ns).submitted (rbat 0 0 0 5)) 1 := hK4
      have HTk := hide (rtick_any w w4 L4 gr g b zs N _ _ 1 0 0 hK4' (by omega) (by omega) (by omega) (by omega))
      have hpi2 := Hpi.out.ticked hK4'.inv (ms := 0) (draw := 0) (by omega) (by omega) (by omega) (by omega)
      have hone := HFG.out.one
      obtain ⟨o, ho, hwy⟩ := HFG.out.way
      have Hpi2 := hide hpi2
      have Ho := hide ho
      have Hwy := hide hwy
      have Hone := hide hone
      clear hK4 hK4' hpi2 ho hwy hone HFG Hpi HSub c0 hp0 hp1
      go_wp2_with fail
      refine HTk.out.mono ?_
      rintro e w5 ⟨v, R5, L5, rfl, hRow5, hK5, hn5⟩
      obtain ⟨va, vk, rfl, _⟩ := hRow5.shape
      have hl5 : ((((Ag.new (madeC zs) (DT (madeT zs N)) ns).submitted (rbat 0 0 0 5)).ticked 0 0).2.length) = 1 := Hone.out
      rw [hl5]
      have HRp := hide (rreply_live w w5 L5 gr g b zs N R5 _ 2 0 o true 0 hK5 (by omega) (by omega) Ho.out Hwy.out)
      obtain ⟨p, bb, a1, a2, a3, a4⟩ := hK5.acked (by omega) (draw := 0) (by omega) Ho.out Hwy.out
      have hlen5 : R5.fs.length = 1 := by rw [← hK5.n, hn5]; rfl
      obtain rfl : p = 0 := by omega
      have hpi3 := Hpi2.out.replied hK5.inv (by omega) (draw := 0) (by omega) Ho.out Hwy.out true
      have Hpi3 := hide hpi3
      have Ha3 := hide a3
      have Ha4 := hide a4
      have Hn5 := hide hn5
      clear hRow5 hK5 hn5 hl5 a1 a2 a3 a4 hlen5 hpi3 Hpi2 Ho Hwy Hone HTk
      go_wp2_with fail
      refine HRp.out.mono ?_
      rintro e w6 ⟨rfl, R6, L6, hK6, hn6⟩
      obtain ⟨fv, wv, hP6⟩ := hK6.at'
      obtain ⟨f, hf⟩ : ∃ f, R6.fs[0]? = some f := ⟨_, List.getElem?_eq_getElem (by rw [← hK6.n, hn6, Hn5.out]; show 0 < 1; omega)⟩
      have hst : f.b.st = 2 := by
        have q := map_at hK6.bs hf
        rw [Ha3.out] at q
        cases q
        exact Ha4.out
      obtain ⟨gf, fk, rfl, _, hcf, _⟩ := hP6.fact hf
      have k12 : w6.cell? ⟨gr, 12, none⟩ = some (.slice (some ⟨gf, 0, none⟩) R6.fs.length fk) := hP6.blk.1.cell 12
      have k16 : w6.cell? ⟨gr, 16, none⟩ = some (.bool true) := hP6.blk.1.cell 16
      have k17 : w6.cell? ⟨gr, 17, none⟩ = some (.bool true) := hP6.blk.1.cell 17
      have k18 : w6.cell? ⟨gr, 18, none⟩ = some (.bool true) := hP6.blk.1.cell 18
      have f4 : w6.cell? ⟨gf, 4, none⟩ = some (.int .i64 2) := by rw [← hst]; exact hcf 4 _ rfl
      have hfl := (List.getElem?_eq_some_iff.1 hf).1
      have hflI : (0 : Int) < (R6.fs.length : Int) := by omega
      have HK6 := hide hK6
      clear hK6 hP6 hcf hf hst
      go_wp2_with fail
      go_ret
      exact ⟨gr, rfl, g, b, R6, _, L6, HK6.out, Hpi3.out⟩
end Go.Proofs.YtojpjaifhjigfabGreatDoor
