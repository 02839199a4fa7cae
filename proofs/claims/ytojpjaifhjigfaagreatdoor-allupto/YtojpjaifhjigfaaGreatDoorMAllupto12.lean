/- Steps of the proof (several texts in one): Settle, Settle2, GiveUp. -/
import Derived.Test.YtojpjaifhjigfaaGreatDoorMAllupto11
import Derived.BigRegion
import Derived.Deep.QuietTactic

/- nextPause, lose: one failure more. -/
namespace Go.Proofs.YtojpjaifhjigfaaGreatDoor
open Go.RowKit Go.Maps

/-- The numbers of a configuration. -/
structure Cfg.Ok (c : Cfg) : Prop where
  d : 1 ≤ c.d ∧ c.d ≤ 4
  q : 1 ≤ c.q ∧ c.q ≤ 120
  at' : 1 ≤ c.at' ∧ c.at' ≤ 10
  ca : 1 ≤ c.ca ∧ c.ca ≤ 60000
  ba : 1 ≤ c.ba ∧ c.ba ≤ c.ca
  ti : 1 ≤ c.ti ∧ c.ti ≤ 60000
  op : 1 ≤ c.op ∧ c.op ≤ 60000
  wi : 1 ≤ c.wi ∧ c.wi ≤ 64
  le : 1 ≤ c.le ∧ c.le ≤ c.wi
theorem Cfg.ok {c : Cfg} (h : c.numB = true) : c.Ok := by
  have H : ∀ v l m, (v, l, m) ∈ c.nums → l ≤ v ∧ v ≤ m := fun v l m hm => by
    have := List.all_eq_true.1 h (v, l, m) hm
    simpa [inB] using this
  exact ⟨H _ _ _ (by simp [Cfg.nums]), H _ _ _ (by simp [Cfg.nums]), H _ _ _ (by simp [Cfg.nums]), H _ _ _ (by simp [Cfg.nums]), H _ _ _ (by simp [Cfg.nums]), H _ _ _ (by simp [Cfg.nums]), H _ _ _ (by simp [Cfg.nums]), H _ _ _ (by simp [Cfg.nums]), H _ _ _ (by simp [Cfg.nums])⟩
theorem nextPause_bd {c : Cfg} (h : c.Ok) {pa draw : Int} (h1 : c.ba ≤ pa) : c.ba ≤ nextPause c pa draw ∧ nextPause c pa draw ≤ c.ca := by
  have := h.ba
  have := h.ca
  have : 0 ≤ draw % (3 * pa - c.ba + 1) := Int.emod_nonneg _ (by omega)
  unfold nextPause
  omega

set_option maxRecDepth 100000 in
set_option maxHeartbeats 1000000 in
theorem nextPause_any (c : Cfg) (m : Option Nat) (pa draw : Int) (w : World) (h : c.Ok) (h1 : c.ba ≤ pa) (h2 : pa ≤ c.ca) (hd : 0 ≤ draw) :
    Calls Tryz.prog 146 #[.int .i64 pa, .int .i64 draw, c.val m] w fun e w' => e = .returned (.int .i64 (nextPause c pa draw)) ∧ Below w.heap.size w w' := by
  have hba := h.ba
  have hca := h.ca
  have hm0 : 0 ≤ draw % (3 * pa - c.ba + 1) := Int.emod_nonneg _ (by omega)
  have hm1 : draw % (3 * pa - c.ba + 1) < 3 * pa - c.ba + 1 := Int.emod_lt_of_pos _ (by omega)
  have hne : ¬ (3 * pa - c.ba + 1 = 0) := by omega
  unfold nextPause
  clear h
  go_enter Tryz.func146, Tryz.ntmps146
  go_wp2_with fail
  go_region
  all_goals
    go_wp2_with fail
    go_ret
    refine ⟨ret_int ?_, ((Below.refl _ _).alloc (Nat.le_refl _) _).drew⟩
    first | rfl | done

/-- Seven cells written into a new block. -/
theorem Blk.set7 {w : World} {g : Nat} {cur : Array Value} {e : TypeId} (h : Blk w g cur e) (hs : cur.size = 7) (v0 v1 v2 v3 v4 v5 v6 : Value) : Blk (((((((w.setCell ⟨g, 0, none⟩ v0).setCell ⟨g, 1, none⟩ v1).setCell ⟨g, 2, none⟩ v2).setCell ⟨g, 3, none⟩ v3).setCell ⟨g, 4, none⟩ v4).setCell ⟨g, 5, none⟩ v5).setCell ⟨g, 6, none⟩ v6) g #[v0, v1, v2, v3, v4, v5, v6] e := by
  have h7 := h.setCells [v0, v1, v2, v3, v4, v5, v6] 0
  have e7 : splice cur 0 [v0, v1, v2, v3, v4, v5, v6] = #[v0, v1, v2, v3, v4, v5, v6] := by
    apply Array.ext'
    rw [splice_toList _ _ _ (by simp [hs]), List.drop_of_length_le (by simp [hs])]
    rfl
  rw [e7] at h7
  exact h7
theorem below_set7 {w0 w : World} {B g : Nat} (h : Below B w0 w) (hB : B ≤ g) (v0 v1 v2 v3 v4 v5 v6 : Value) : Below B w0 (((((((w.setCell ⟨g, 0, none⟩ v0).setCell ⟨g, 1, none⟩ v1).setCell ⟨g, 2, none⟩ v2).setCell ⟨g, 3, none⟩ v3).setCell ⟨g, 4, none⟩ v4).setCell ⟨g, 5, none⟩ v5).setCell ⟨g, 6, none⟩ v6) :=
  ((((((h.setCell hB v0).setCell hB v1).setCell hB v2).setCell hB v3).setCell hB v4).setCell hB v5).setCell hB v6

/-- Stores into a block that is new. -/
theorem Step.newCells {p : Lab → Prop} {L L' : Labs} {w w' : World} (s : Step p L w L' w') {R : Nat} (hR : w.heap.size ≤ R) (vs : List Value) (o : Nat) : Step p L w L' (w'.setCells R o vs) :=
  have t := Step.setCells (p := fun _ => True) (fun _ => none) (b := R) trivial vs w' o
  ⟨t.os.trans s.os, t.tape.trans s.tape, t.output.trans s.output, Nat.le_trans s.size t.size, s.lab, fun k hk hp => (heap_setCells vs o (by omega)).trans (s.block k hk hp)⟩

/-- A store into a batch's pause. -/
theorem Ret.put {w : World} {L : Labs} {who gr k n p : Nat} {rs : List Ret} {r : Ret} {a b : Int} (h : RowAt w L (some (who, .rt)) 189 2 (.slice (some ⟨gr, 0, none⟩) n k) n (rs.flatMap Ret.cells)) (hb : rs[p]? = some r) :
    RowAt ((w.setCell ⟨gr, p * 2, none⟩ (.int .i64 a)).setCell ⟨gr, p * 2 + 1, none⟩ (.int .i64 b)) L (some (who, .rt)) 189 2 (.slice (some ⟨gr, 0, none⟩) n k) n ((rs.set p ⟨a, b⟩).flatMap Ret.cells) ∧ Step (fun l => l = some (who, .rt)) L w L ((w.setCell ⟨gr, p * 2, none⟩ (.int .i64 a)).setCell ⟨gr, p * 2 + 1, none⟩ (.int .i64 b)) := by
  have hl : L gr = some (who, .rt) := h.2 gr (by simp [Value.ownBlock])
  have h1 := h.set (p * 2 + 0) (.int .i64 a)
  rw [flat_set Ret.cells 2 (fun _ => rfl) rs p 0 r ⟨a, r.pa⟩ (.int .i64 a) (by omega) hb rfl] at h1
  have hb1 : (rs.set p ⟨a, r.pa⟩)[p]? = some ⟨a, r.pa⟩ := by rw [List.getElem?_set_self (List.getElem?_eq_some_iff.1 hb).1]
  have h2 := h1.set (p * 2 + 1) (.int .i64 b)
  rw [flat_set Ret.cells 2 (fun _ => rfl) _ p 1 ⟨a, r.pa⟩ ⟨a, b⟩ (.int .i64 b) (by omega) hb1 rfl, List.set_set] at h2
  exact ⟨h2, (Step.setCell _ _ _ _ hl).trans (Step.setCell _ _ _ _ hl)⟩

/-- An agent whose pauses have turned. -/
theorem AgAt.paused {w w' : World} {L L' : Labs} {who g : Nat} {M : Ag} {bq bm cn : Nat} {tv dv nv rv ov : Value} {rt : List Ret} (h : AgAt w L who g M bq bm cn tv dv nv rv ov) (s : Step (fun l => l = some (who, .rt)) L w L' w') (hr : RowAt w' L' (some (who, .rt)) 189 2 rv rt.length (rt.flatMap Ret.cells)) : AgAt w' L' who g { M with rt := rt } bq bm cn tv dv nv rv ov :=
  ⟨h.blk.keep s (by simp), h.tk.keep s (by simp), h.qs.keep s (by simp) (by simp), h.dd.keep s (by simp), h.nm.keep s (by simp), hr, h.ol.keep s (by simp) (by simp) (by simp), h.cm.keep s (by simp)⟩

/-- What a failure makes of an agent's pauses. -/
def Ag.paused (M : Ag) (p : Nat) (r : Ret) (draw : Int) : Ag := { M with rt := M.rt.set p ⟨M.now + nextPause M.c r.pa draw, nextPause M.c r.pa draw⟩ }

set_option maxRecDepth 100000 in
set_option maxHeartbeats 1000000 in
theorem lose_die (L : Labs) (who g p : Nat) (M : Ag) (b : Bat) (draw : Int) (w : World) (hA : AgentAt w L who g M) (hb : M.bs[p]? = some b) (h0 : 0 ≤ b.fl) (h1 : b.fl ≤ 1000) (hd : M.c.at' ≤ b.fl + 1) :
    Calls Tryz.prog 117 #[.pointer (some ⟨g, 0, none⟩), .int .i64 p, .int .i64 draw] w fun e w' => e = .returned (Ev.of 3 p 1).val ∧ Below w.heap.size w w' := by
  have hpl := (List.getElem?_eq_some_iff.1 hb).1
  obtain ⟨gt, gk, bq, bm, cn, dv, nv, rv, ov, h⟩ := hA.parts (by omega)
  have hgl := h.blk.1.lt
  have c0 : w.cell? ⟨g, 0, none⟩ = some (.slice (some ⟨gt, 0, none⟩) M.bs.length gk) := h.blk.1.cell 0
  have c7 : w.cell? ⟨g, 7, none⟩ = some (.int .i64 M.c.at') := h.blk.1.cell 7
  obtain ⟨g', e', hlt, _, hcell, _⟩ := h.tk.head (by omega)
  obtain rfl : gt = g' := by simpa using e'
  have t5 : w.cell? ⟨gt, p * 6 + 5, none⟩ = some (.int .i64 b.fl) := hcell _ _ (flat_cell Bat.cells 6 Bat.cells_length hb (by omega) rfl)
  have hpI : (p : Int) < (M.bs.length : Int) := by omega
  unfold Ev.val Ev.of noBat
  clear h hcell e' hb hA
  go_enter Tryz.func117, Tryz.ntmps117
  go_wp2_with fail
  go_quiet (fail)
  go_wp2_with fail
  have hR := Blk.set7 ((Blk.new w #[.int .i64 0, .int .i64 0, .string ⟨#[]⟩, .string ⟨#[]⟩, .string ⟨#[]⟩, .int .i64 0, .int .i64 0] 151).drewN nq) rfl (.int .i64 3) (.int .i64 0) (.string ⟨#[]⟩) (.string ⟨#[]⟩) (.string ⟨#[]⟩) (.int .i64 p) (.int .i64 1)
  refine bodyPost_ret (v := .agg #[.int .i64 3, .int .i64 0, .string ⟨#[]⟩, .string ⟨#[]⟩, .string ⟨#[]⟩, .int .i64 p, .int .i64 1]) (results_cell1 Tryz.results117 rfl (run_loadVar_mid _ _ 0 151 [.int .i64 3, .int .i64 0, .string ⟨#[]⟩, .string ⟨#[]⟩, .string ⟨#[]⟩, .int .i64 p, .int .i64 1] _ (hR.range 0 _ rfl) Tryz.underlying151 rfl infoEv)) rfl ⟨rfl, ?_⟩
  exact below_set7 (below_drewN ((Below.refl _ _).alloc (Nat.le_refl _) _) nq) (Nat.le_refl _) _ _ _ _ _ _ _

set_option maxRecDepth 100000 in
set_option maxHeartbeats 2000000 in
theorem lose_fail (L : Labs) (who g p : Nat) (M : Ag) (b : Bat) (r : Ret) (draw : Int) (w : World) (hLn : ∀ k, w.heap.size ≤ k → L k = none) (hA : AgentAt w L who g M) (hb : M.bs[p]? = some b) (hr : M.rt[p]? = some r) (h0 : 0 ≤ b.fl) (h1 : b.fl ≤ 1000) (hd : ¬ M.c.at' ≤ b.fl + 1)
    (hc : M.c.Ok) (hp1 : M.c.ba ≤ r.pa) (hp2 : r.pa ≤ M.c.ca) (hdr : 0 ≤ draw) (hn0 : 0 ≤ M.now) (hn1 : M.now ≤ 1000000000000000000) :
    Calls Tryz.prog 117 #[.pointer (some ⟨g, 0, none⟩), .int .i64 p, .int .i64 draw] w fun e w' => e = .returned (Ev.of 2 p 1).val ∧ AgentAt w' L who g (M.paused p r draw) ∧ Step (ofP who) L w L w' := by
  have hpl := (List.getElem?_eq_some_iff.1 hb).1
  have hrl := (List.getElem?_eq_some_iff.1 hr).1
  obtain ⟨gt, gk, bq, bm, cn, dv, nv, rv, ov, h⟩ := hA.parts (by omega)
  have hgl := h.blk.1.lt
  obtain ⟨ra, rk, rfl, _⟩ := h.rt.shape
  obtain ⟨gr, rfl, hgr, hlabr, hcr, hfr⟩ := h.rt.head (by omega)
  have c0 : w.cell? ⟨g, 0, none⟩ = some (.slice (some ⟨gt, 0, none⟩) M.bs.length gk) := h.blk.1.cell 0
  have c16 : w.cell? ⟨g, 16, none⟩ = some (.int .i64 M.now) := h.blk.1.cell 16
  have c17 : w.cell? ⟨g, 17, none⟩ = some (.slice (some ⟨gr, 0, none⟩) M.rt.length rk) := h.blk.1.cell 17
  obtain ⟨k0, k1, k2, k3, k4, k5, k6, k7, k8, k9, k10⟩ : w.cell? ⟨g, 4, none⟩ = some (.int .i64 M.c.d) ∧ w.cell? ⟨g, 4 + 1, none⟩ = some (.map (some bm)) ∧ w.cell? ⟨g, 4 + 2, none⟩ = some (.int .i64 M.c.q) ∧ w.cell? ⟨g, 4 + 3, none⟩ = some (.int .i64 M.c.at') ∧ w.cell? ⟨g, 4 + 4, none⟩ = some (.int .i64 M.c.ba) ∧ w.cell? ⟨g, 4 + 5, none⟩ = some (.int .i64 M.c.ca) ∧ w.cell? ⟨g, 4 + 6, none⟩ = some (.int .i64 M.c.ti) ∧ w.cell? ⟨g, 4 + 7, none⟩ = some (.int .i64 M.c.wi) ∧ w.cell? ⟨g, 4 + 8, none⟩ = some (.int .i64 M.c.le) ∧ w.cell? ⟨g, 4 + 9, none⟩ = some (.float .f64 M.c.th) ∧ w.cell? ⟨g, 4 + 10, none⟩ = some (.int .i64 M.c.op) := ⟨h.blk.1.cell 4, h.blk.1.cell 5, h.blk.1.cell 6, h.blk.1.cell 7, h.blk.1.cell 8, h.blk.1.cell 9, h.blk.1.cell 10, h.blk.1.cell 11, h.blk.1.cell 12, h.blk.1.cell 13, h.blk.1.cell 14⟩
  obtain ⟨g', e', hlt, _, hcell, _⟩ := h.tk.head (by omega)
  obtain rfl : gt = g' := by simpa using e'
  have t5 : w.cell? ⟨gt, p * 6 + 5, none⟩ = some (.int .i64 b.fl) := hcell _ _ (flat_cell Bat.cells 6 Bat.cells_length hb (by omega) rfl)
  have r0 : w.cell? ⟨gr, p * 2, none⟩ = some (.int .i64 r.fr) := hcr (p * 2 + 0) _ (flat_cell Ret.cells 2 (fun _ => rfl) hr (by omega) rfl)
  have r1 : w.cell? ⟨gr, p * 2 + 1, none⟩ = some (.int .i64 r.pa) := hcr _ _ (flat_cell Ret.cells 2 (fun _ => rfl) hr (by omega) rfl)
  have hpI : (p : Int) < (M.bs.length : Int) := by omega
  have hpR : (p : Int) < (M.rt.length : Int) := by omega
  have hpb := nextPause_bd hc (draw := draw) hp1
  have hca := hc.ca
  have hba := hc.ba
  have HNP := hide (fun w1 => nextPause_any M.c (some bm) r.pa draw w1 hc hp1 hp2 hdr)
  generalize hnp : nextPause M.c r.pa draw = np at *
  have HH := hide h
  have Hr := hide hr
  have HLn := hide hLn
  have Hnp := hide hnp
  have hfr0 := hfr (p * 2)
  have hfr1 := hfr (p * 2 + 1)
  unfold Ev.val Ev.of noBat
  clear h hcell e' hb hA hr hcr hfr hc hnp hLn
  go_enter Tryz.func117, Tryz.ntmps117
  go_wp2_with fail
  go_quiet (fail)
  go_wp2_with fail
  generalize hV : World.drewN (World.alloc w _) _ = V
  have hBV : Below w.heap.size w V := by rw [← hV]; exact below_drewN ((Below.refl w.heap.size w).alloc (Nat.le_refl _) _) _
  have hNV : Blk V w.heap.size #[.int .i64 0, .int .i64 0, .string ⟨#[]⟩, .string ⟨#[]⟩, .string ⟨#[]⟩, .int .i64 0, .int .i64 0] 151 := by rw [← hV]; exact (Blk.new w _ _).drewN _
  have v17 : V.cell? ⟨g, 17, none⟩ = some (.slice (some ⟨gr, 0, none⟩) M.rt.length rk) := (hBV.cell (p := ⟨g, 17, none⟩) hgl).trans c17
  have v1 : V.cell? ⟨gr, p * 2 + 1, none⟩ = some (.int .i64 r.pa) := (hBV.cell (p := ⟨gr, p * 2 + 1, none⟩) hgr).trans r1
  obtain ⟨y0, y1, y2, y3, y4, y5, y6, y7, y8, y9, y10⟩ : V.cell? ⟨g, 4, none⟩ = some (.int .i64 M.c.d) ∧ V.cell? ⟨g, 4 + 1, none⟩ = some (.map (some bm)) ∧ V.cell? ⟨g, 4 + 2, none⟩ = some (.int .i64 M.c.q) ∧ V.cell? ⟨g, 4 + 3, none⟩ = some (.int .i64 M.c.at') ∧ V.cell? ⟨g, 4 + 4, none⟩ = some (.int .i64 M.c.ba) ∧ V.cell? ⟨g, 4 + 5, none⟩ = some (.int .i64 M.c.ca) ∧ V.cell? ⟨g, 4 + 6, none⟩ = some (.int .i64 M.c.ti) ∧ V.cell? ⟨g, 4 + 7, none⟩ = some (.int .i64 M.c.wi) ∧ V.cell? ⟨g, 4 + 8, none⟩ = some (.int .i64 M.c.le) ∧ V.cell? ⟨g, 4 + 9, none⟩ = some (.float .f64 M.c.th) ∧ V.cell? ⟨g, 4 + 10, none⟩ = some (.int .i64 M.c.op) := ⟨(hBV.cell (p := ⟨g, 4, none⟩) hgl).trans k0, (hBV.cell (p := ⟨g, 5, none⟩) hgl).trans k1, (hBV.cell (p := ⟨g, 6, none⟩) hgl).trans k2, (hBV.cell (p := ⟨g, 7, none⟩) hgl).trans k3, (hBV.cell (p := ⟨g, 8, none⟩) hgl).trans k4, (hBV.cell (p := ⟨g, 9, none⟩) hgl).trans k5, (hBV.cell (p := ⟨g, 10, none⟩) hgl).trans k6, (hBV.cell (p := ⟨g, 11, none⟩) hgl).trans k7, (hBV.cell (p := ⟨g, 12, none⟩) hgl).trans k8, (hBV.cell (p := ⟨g, 13, none⟩) hgl).trans k9, (hBV.cell (p := ⟨g, 14, none⟩) hgl).trans k10⟩
  have HBV := hide hBV
  have HNV := hide hNV
  clear hV hBV hNV k0 k1 k2 k3 k4 k5 k6 k7 k8 k9 k10
  go_cut [7] (fun s7 wx => s7 = .int .i64 np ∧ Below V.heap.size V wx)
  case first =>
    go_region_with ((go_at_call 146; refine (HNP.out _).mono ?_; rintro e w2 ⟨rfl, hb2⟩))
    all_goals
      go_wp2_with fail
      go_meet
      exact ⟨rfl, ((Below.refl V.heap.size V).drew).trans hb2⟩
  case rest =>
  obtain ⟨rfl, hbc⟩ := hcut
  generalize hwc : wc = W at *
  have hBW : Below w.heap.size w W := HBV.out.trans (hbc.mono HBV.out.size)
  have HNW := hide (HNV.out.below hbc HNV.out.lt)
  have x16 : W.cell? ⟨g, 16, none⟩ = some (.int .i64 M.now) := (hBW.cell (p := ⟨g, 16, none⟩) hgl).trans c16
  have x17 : W.cell? ⟨g, 17, none⟩ = some (.slice (some ⟨gr, 0, none⟩) M.rt.length rk) := (hBW.cell (p := ⟨g, 17, none⟩) hgl).trans c17
  have x0 : W.cell? ⟨gr, p * 2, none⟩ = some (.int .i64 r.fr) := (hBW.cell (p := ⟨gr, p * 2, none⟩) hgr).trans r0
  have x1 : W.cell? ⟨gr, p * 2 + 1, none⟩ = some (.int .i64 r.pa) := (hBW.cell (p := ⟨gr, p * 2 + 1, none⟩) hgr).trans r1
  have f0 : W.frozen? ⟨gr, p * 2, none⟩ = false := (hBW.frozen (p := ⟨gr, p * 2, none⟩) hgr).trans hfr0
  have f1 : W.frozen? ⟨gr, p * 2 + 1, none⟩ = false := (hBW.frozen (p := ⟨gr, p * 2 + 1, none⟩) hgr).trans hfr1
  have HU : Hid (AgentAt (((W.setCell ⟨gr, p * 2, none⟩ (.int .i64 (M.now + np))).setCell ⟨gr, p * 2 + 1, none⟩ (.int .i64 np)).drew) L who g (M.paused p r draw) ∧ Step (ofP who) L w L (((W.setCell ⟨gr, p * 2, none⟩ (.int .i64 (M.now + np))).setCell ⟨gr, p * 2 + 1, none⟩ (.int .i64 np)).drew) ∧
      Blk (((W.setCell ⟨gr, p * 2, none⟩ (.int .i64 (M.now + np))).setCell ⟨gr, p * 2 + 1, none⟩ (.int .i64 np)).drew) w.heap.size #[.int .i64 0, .int .i64 0, .string ⟨#[]⟩, .string ⟨#[]⟩, .string ⟨#[]⟩, .int .i64 0, .int .i64 0] 151) := by
    have s1 : Step (fun l => l = some (who, .rt)) L w L W := Step.of_below hBW
    obtain ⟨a2, s2⟩ := Ret.put (a := M.now + np) (b := np) (HH.out.rt.keep (Step.of_below (p := fun _ => False) hBW) (fun h => h)) Hr.out
    have hA2 := AgAt.paused (rt := M.rt.set p ⟨M.now + np, np⟩) HH.out (s1.trans s2) (by rw [List.length_set]; exact a2)
    have hne : w.heap.size ≠ gr := by omega
    refine ⟨⟨bq, bm, cn, .slice (some ⟨gt, 0, none⟩) M.bs.length gk, dv, nv, .slice (some ⟨gr, 0, none⟩) M.rt.length rk, ov, ?_⟩, ((s1.trans s2).mono (fun l h => ⟨_, h⟩)).trans (Step.drew L _), ?_⟩
    · unfold Ag.paused
      rw [Hnp.out]
      exact hA2.keep (Step.drew (p := fun _ => False) L _) (fun _ h => h)
    · exact ((HNW.out.other ⟨gr, p * 2, none⟩ (.int .i64 (M.now + np)) hne).other ⟨gr, p * 2 + 1, none⟩ (.int .i64 np) hne).drewN 1
  have hwl : gr < W.heap.size := Nat.lt_of_lt_of_le hgr hBW.size
  clear hwc hbc hBW v17 v1 y0 y1 y2 y3 y4 y5 y6 y7 y8 y9 y10 c0 c16 c17 r0 r1 hfr0 hfr1 t5
  go_upto_region 4 with fail
  go_cut [] (fun wx => AgentAt wx L who g (M.paused p r draw) ∧ Step (ofP who) L w L wx ∧ Blk wx w.heap.size #[.int .i64 0, .int .i64 0, .string ⟨#[]⟩, .string ⟨#[]⟩, .string ⟨#[]⟩, .int .i64 0, .int .i64 0] 151)
  case first =>
    go_region
    all_goals
      go_wp2_with fail
      go_meet
      exact HU.out
  case rest =>
  obtain ⟨hA9, hS9, hN9⟩ := hcut
  generalize hwc : wc = X at *
  have HA9 := hide hA9
  have HS9 := hide hS9
  have HN9 := hide hN9
  have n0 : X.cell? ⟨w.heap.size, 0, none⟩ = some (.int .i64 0) := hN9.cell 0
  have n1 : X.cell? ⟨w.heap.size, 1, none⟩ = some (.int .i64 0) := hN9.cell 1
  have n2 : X.cell? ⟨w.heap.size, 2, none⟩ = some (.string ⟨#[]⟩) := hN9.cell 2
  have n3 : X.cell? ⟨w.heap.size, 3, none⟩ = some (.string ⟨#[]⟩) := hN9.cell 3
  have n4 : X.cell? ⟨w.heap.size, 4, none⟩ = some (.string ⟨#[]⟩) := hN9.cell 4
  have n5 : X.cell? ⟨w.heap.size, 5, none⟩ = some (.int .i64 0) := hN9.cell 5
  have n6 : X.cell? ⟨w.heap.size, 6, none⟩ = some (.int .i64 0) := hN9.cell 6
  have nf := fun o => hN9.frozen o
  have hnl := hN9.lt
  clear hwc hA9 hS9 hN9 x16 x17 x0 x1 f0 f1
  go_wp2_with fail
  have hR := Blk.set7 HN9.out rfl (.int .i64 2) (.int .i64 0) (.string ⟨#[]⟩) (.string ⟨#[]⟩) (.string ⟨#[]⟩) (.int .i64 p) (.int .i64 1)
  refine bodyPost_ret (v := .agg #[.int .i64 2, .int .i64 0, .string ⟨#[]⟩, .string ⟨#[]⟩, .string ⟨#[]⟩, .int .i64 p, .int .i64 1]) (results_cell1 Tryz.results117 rfl (run_loadVar_mid _ _ 0 151 [.int .i64 2, .int .i64 0, .string ⟨#[]⟩, .string ⟨#[]⟩, .string ⟨#[]⟩, .int .i64 p, .int .i64 1] _ (hR.range 0 _ rfl) Tryz.underlying151 rfl infoEv)) rfl ⟨rfl, ?_⟩
  have hLR : L w.heap.size = none := HLn.out _ (Nat.le_refl _)
  exact ⟨HA9.out.keep (p := fun l => l = none) (Step.setCells L (by exact hLR) [.int .i64 2, .int .i64 0, .string ⟨#[]⟩, .string ⟨#[]⟩, .string ⟨#[]⟩, .int .i64 p, .int .i64 1] X 0) (fun q h => by cases h), HS9.out.newCells (Nat.le_refl _) [.int .i64 2, .int .i64 0, .string ⟨#[]⟩, .string ⟨#[]⟩, .string ⟨#[]⟩, .int .i64 p, .int .i64 1] 0⟩
end Go.Proofs.YtojpjaifhjigfaaGreatDoor

/- settle: the send that is under way ends. -/
namespace Go.Proofs.YtojpjaifhjigfaaGreatDoor
open Go.RowKit Go.Maps

/-- What settle wants: a send is under way, of a batch that is pending. -/
structure SetOk (M : Ag) (d : Nat) (o : Out) (p : Nat) (b : Bat) (r : Ret) (draw : Int) : Prop where
  ho : M.os[d]? = some o
  way : o.way = p
  hb : M.bs[p]? = some b
  hr : M.rt[p]? = some r
  f0 : 0 ≤ b.fl
  f1 : b.fl ≤ 1000
  r0 : 0 ≤ o.res
  r1 : o.res ≤ 63
  l0 : 0 ≤ o.fl
  l1 : o.fl ≤ o.res
  c : M.c.Ok
  p1 : M.c.ba ≤ r.pa
  p2 : r.pa ≤ M.c.ca
  dr : 0 ≤ draw
  n0 : 0 ≤ M.now
  n1 : M.now ≤ 1000000000000000000

/-- The agent behind the breaker's hearing. -/
def Ag.heard (M : Ag) (d : Nat) (o : Out) (good : Bool) : Ag := { M with os := M.os.set d ({ o with way := -1 }.heard M.c M.now good) }
theorem settled_eq {M : Ag} {d : Nat} {o : Out} {p : Nat} {b : Bat} {r : Ret} {draw : Int} (h : SetOk M d o p b r draw) (good : Bool) :
    M.settled d good draw = if good then (M.heard d o good, Ev.of 1 p 0) else if M.c.at' ≤ b.fl + 1 then (M.heard d o good, Ev.of 3 p 1) else ((M.heard d o good).paused p r draw, Ev.of 2 p 1) := by
  have hp : o.way.toNat = p := by rw [h.way]; simp
  unfold Ag.settled
  rw [h.ho]
  simp only [hp, h.hb, h.hr]
  cases good <;> rfl

/-- What settle leaves. -/
def Settled (w : World) (L : Labs) (who g : Nat) (x : Ag × Ev) (e : Ending) (w' : World) : Prop := e = .returned x.2.val ∧ AgentAt w' L who g x.1 ∧ Step (ofP who) L w L w'

theorem zev_other {w w' : World} {L L' : Labs} {who R : Nat} {cs : Array Value} (s : Step (ofP who) L w L' w') (h : Blk w R cs 151) (hL : L R = none) : Blk w' R cs 151 := s.free h (by rw [hL]; rintro ⟨q, hq⟩; cases hq)

set_option maxRecDepth 100000 in
set_option maxHeartbeats 4000000 in
theorem settle_core (L : Labs) (who g d p : Nat) (M : Ag) (o : Out) (b : Bat) (r : Ret) (good : Bool) (draw : Int) (w : World) (hLn : ∀ k, w.heap.size ≤ k → L k = none) (hA : AgentAt w L who g M) (hs : SetOk M d o p b r draw) :
    Calls Tryz.prog 73 #[.pointer (some ⟨g, 0, none⟩), .int .i64 d, .bool good, .int .i64 draw] w fun e w' => Settled w L who g (M.settled d good draw) e w' := by
  obtain ⟨bq, bm, cn, tv, dv, nv, rv, ov, h⟩ := hA
  have hdl := (List.getElem?_eq_some_iff.1 hs.ho).1
  obtain ⟨go, ok, rfl, hF⟩ := h.focus hs.ho
  have hgl := h.blk.1.lt
  have hop := hs.c.op
  have c18 : w.cell? ⟨g, 18, none⟩ = some (.slice (some ⟨go, 0, none⟩) M.os.length ok) := h.blk.1.cell 18
  have HFin := hide (fun x => finish_any L who M.c.th go ok d M.os o (w.alloc x) (hF.alloc x))
  rw [hs.way] at HFin
  have HHear := hide (fun w1 h1 => hear_any L who go ok d M.os { o with way := -1 } good M.c (some bm) M.now w1 h1 hs.r0 hs.r1 hs.l0 hs.l1 hs.n0 hs.n1 (by omega) hop.2)
  have HH := hide h
  have Hs := hide hs
  have HLn := hide hLn
  have HEq := hide (settled_eq hs good)
  have hdI : (d : Int) < (M.os.length : Int) := by omega
  have hLR : L w.heap.size = none := hLn _ (Nat.le_refl _)
  have HLR := hide hLR
  clear h hF hs hLn hop hLR
  go_enter Tryz.func73, Tryz.ntmps73
  go_wp2_with fail
  refine (HFin.out _).mono ?_
  rintro e w1 ⟨rfl, hF1, hS1⟩
  have hN1 : Blk w1 w.heap.size #[.int .i64 0, .int .i64 0, .string ⟨#[]⟩, .string ⟨#[]⟩, .string ⟨#[]⟩, .int .i64 0, .int .i64 0] 151 := hS1.free (Blk.new w _ _) (by rw [HLR.out]; simp [olP])
  have hS1w : Step (olP who) L w L w1 := (Step.alloc L w _).trans hS1
  have hB1 : BlkAt w1 L (some (who, .ag)) g _ 138 := HH.out.blk.keep hS1w (by simp [olP])
  have c16 : w1.cell? ⟨g, 16, none⟩ = some (.int .i64 M.now) := hB1.1.cell 16
  obtain ⟨y0, y1, y2, y3, y4, y5, y6, y7, y8, y9, y10⟩ : w1.cell? ⟨g, 4, none⟩ = some (.int .i64 M.c.d) ∧ w1.cell? ⟨g, 4 + 1, none⟩ = some (.map (some bm)) ∧ w1.cell? ⟨g, 4 + 2, none⟩ = some (.int .i64 M.c.q) ∧ w1.cell? ⟨g, 4 + 3, none⟩ = some (.int .i64 M.c.at') ∧ w1.cell? ⟨g, 4 + 4, none⟩ = some (.int .i64 M.c.ba) ∧ w1.cell? ⟨g, 4 + 5, none⟩ = some (.int .i64 M.c.ca) ∧ w1.cell? ⟨g, 4 + 6, none⟩ = some (.int .i64 M.c.ti) ∧ w1.cell? ⟨g, 4 + 7, none⟩ = some (.int .i64 M.c.wi) ∧ w1.cell? ⟨g, 4 + 8, none⟩ = some (.int .i64 M.c.le) ∧ w1.cell? ⟨g, 4 + 9, none⟩ = some (.float .f64 M.c.th) ∧ w1.cell? ⟨g, 4 + 10, none⟩ = some (.int .i64 M.c.op) := ⟨hB1.1.cell 4, hB1.1.cell 5, hB1.1.cell 6, hB1.1.cell 7, hB1.1.cell 8, hB1.1.cell 9, hB1.1.cell 10, hB1.1.cell 11, hB1.1.cell 12, hB1.1.cell 13, hB1.1.cell 14⟩
  have HF1 := hide hF1
  have HS1 := hide hS1w
  have HN1 := hide hN1
  have hgl1 := hB1.1.lt
  clear hF1 hS1 hS1w hN1 hB1 c18
  go_upto_region 3 with fail
  go_cut [10] (fun s10 wx => s10 = .int .i64 p ∧ AgAt wx L who g (M.heard d o good) bq bm cn tv dv nv rv (.slice (some ⟨go, 0, none⟩) M.os.length ok) ∧ Step (ofP who) L w L wx ∧ Blk wx w.heap.size #[.int .i64 0, .int .i64 0, .string ⟨#[]⟩, .string ⟨#[]⟩, .string ⟨#[]⟩, .int .i64 0, .int .i64 0] 151)
  case first =>
    go_region_with ((go_at_call 116; refine (HHear.out _ (by first | exact HF1.out | exact HF1.out.drew)).mono ?_; rintro e w2 ⟨rfl, hF2, hS2⟩))
    all_goals
      go_wp2_with fail
      go_meet
      have hS2' : Step (olP who) L w1 L w2 := by first | exact hS2 | exact (Step.drew L _).trans hS2
      have hSw := HS1.out.trans hS2'
      refine ⟨rfl, HH.out.outs hSw (fun q h => by simp [olP] at h; exact Or.inl h) hF2.2, hSw.mono (fun l h => ⟨_, h⟩), hS2'.free HN1.out (by rw [HLR.out]; simp [olP])⟩
  case rest =>
  obtain ⟨rfl, hA2, hS2, hN2⟩ := hcut
  generalize hwc : wc = X at *
  have HA2 : Hid (AgentAt X L who g (M.heard d o good)) := ⟨bq, bm, cn, tv, dv, nv, rv, _, hA2⟩
  have HS2 := hide hS2
  have HNX := hide hN2
  have HLX : Hid (∀ k, X.heap.size ≤ k → L k = none) := fun k hk => HLn.out k (Nat.le_trans hS2.size hk)
  clear hwc hA2 hS2 hN2 c16 y0 y1 y2 y3 y4 y5 y6 y7 y8 y9 y10
  cases good
  · by_cases hd : M.c.at' ≤ b.fl + 1
    · have HLo := hide (lose_die L who g p (M.heard d o false) b draw X HA2.out Hs.out.hb Hs.out.f0 Hs.out.f1 hd)
      unfold Ev.val Ev.of noBat at HLo
      have Hd := hide hd
      clear hd
      go_wp2_with fail
      refine HLo.out.mono ?_
      rintro e w3 ⟨rfl, hb3⟩
      have HA3 := hide (HA2.out.keep (Step.of_below (p := fun _ => False) hb3) (fun _ h => h))
      have HS3 : Hid (Step (ofP who) L w L w3) := HS2.out.trans (Step.of_below hb3)
      have HNX := hide (HNX.out.below hb3 HNX.out.lt)
      clear hb3
      have n0 : w3.cell? ⟨w.heap.size, 0, none⟩ = some (.int .i64 0) := HNX.out.cell 0
      have n1 : w3.cell? ⟨w.heap.size, 1, none⟩ = some (.int .i64 0) := HNX.out.cell 1
      have n2 : w3.cell? ⟨w.heap.size, 2, none⟩ = some (.string ⟨#[]⟩) := HNX.out.cell 2
      have n3 : w3.cell? ⟨w.heap.size, 3, none⟩ = some (.string ⟨#[]⟩) := HNX.out.cell 3
      have n4 : w3.cell? ⟨w.heap.size, 4, none⟩ = some (.string ⟨#[]⟩) := HNX.out.cell 4
      have n5 : w3.cell? ⟨w.heap.size, 5, none⟩ = some (.int .i64 0) := HNX.out.cell 5
      have n6 : w3.cell? ⟨w.heap.size, 6, none⟩ = some (.int .i64 0) := HNX.out.cell 6
      have nf := fun o => HNX.out.frozen o
      have hnl := HNX.out.lt
      go_wp2_with fail
      have hR := Blk.set7 HNX.out rfl (.int .i64 3) (.int .i64 0) (.string ⟨#[]⟩) (.string ⟨#[]⟩) (.string ⟨#[]⟩) (.int .i64 p) (.int .i64 1)
      refine bodyPost_ret (v := .agg #[.int .i64 3, .int .i64 0, .string ⟨#[]⟩, .string ⟨#[]⟩, .string ⟨#[]⟩, .int .i64 p, .int .i64 1]) (results_cell1 Tryz.results73 rfl (run_loadVar_mid _ _ 0 151 [.int .i64 3, .int .i64 0, .string ⟨#[]⟩, .string ⟨#[]⟩, .string ⟨#[]⟩, .int .i64 p, .int .i64 1] _ (hR.range 0 _ rfl) Tryz.underlying151 rfl infoEv)) rfl ?_
      rw [HEq.out, if_neg (by simp), if_pos Hd.out]
      exact ⟨rfl, HA3.out.keep (p := fun l => l = none) (Step.setCells L (by exact HLR.out) [.int .i64 3, .int .i64 0, .string ⟨#[]⟩, .string ⟨#[]⟩, .string ⟨#[]⟩, .int .i64 p, .int .i64 1] w3 0) (fun q h => by cases h), HS3.out.newCells (Nat.le_refl _) [.int .i64 3, .int .i64 0, .string ⟨#[]⟩, .string ⟨#[]⟩, .string ⟨#[]⟩, .int .i64 p, .int .i64 1] 0⟩
    · have HLo := hide (lose_fail L who g p (M.heard d o false) b r draw X HLX.out HA2.out Hs.out.hb Hs.out.hr Hs.out.f0 Hs.out.f1 hd Hs.out.c Hs.out.p1 Hs.out.p2 Hs.out.dr Hs.out.n0 Hs.out.n1)
      unfold Ev.val Ev.of noBat at HLo
      have Hd := hide hd
      clear hd
      go_wp2_with fail
      refine HLo.out.mono ?_
      rintro e w3 ⟨rfl, hA3, hS3⟩
      have HA3 := hide hA3
      have HS3 : Hid (Step (ofP who) L w L w3) := HS2.out.trans hS3
      have HNX := hide (zev_other hS3 HNX.out HLR.out)
      clear hA3 hS3
      have n0 : w3.cell? ⟨w.heap.size, 0, none⟩ = some (.int .i64 0) := HNX.out.cell 0
      have n1 : w3.cell? ⟨w.heap.size, 1, none⟩ = some (.int .i64 0) := HNX.out.cell 1
      have n2 : w3.cell? ⟨w.heap.size, 2, none⟩ = some (.string ⟨#[]⟩) := HNX.out.cell 2
      have n3 : w3.cell? ⟨w.heap.size, 3, none⟩ = some (.string ⟨#[]⟩) := HNX.out.cell 3
      have n4 : w3.cell? ⟨w.heap.size, 4, none⟩ = some (.string ⟨#[]⟩) := HNX.out.cell 4
      have n5 : w3.cell? ⟨w.heap.size, 5, none⟩ = some (.int .i64 0) := HNX.out.cell 5
      have n6 : w3.cell? ⟨w.heap.size, 6, none⟩ = some (.int .i64 0) := HNX.out.cell 6
      have nf := fun o => HNX.out.frozen o
      have hnl := HNX.out.lt
      go_wp2_with fail
      have hR := Blk.set7 HNX.out rfl (.int .i64 2) (.int .i64 0) (.string ⟨#[]⟩) (.string ⟨#[]⟩) (.string ⟨#[]⟩) (.int .i64 p) (.int .i64 1)
      refine bodyPost_ret (v := .agg #[.int .i64 2, .int .i64 0, .string ⟨#[]⟩, .string ⟨#[]⟩, .string ⟨#[]⟩, .int .i64 p, .int .i64 1]) (results_cell1 Tryz.results73 rfl (run_loadVar_mid _ _ 0 151 [.int .i64 2, .int .i64 0, .string ⟨#[]⟩, .string ⟨#[]⟩, .string ⟨#[]⟩, .int .i64 p, .int .i64 1] _ (hR.range 0 _ rfl) Tryz.underlying151 rfl infoEv)) rfl ?_
      rw [HEq.out, if_neg (by simp), if_neg (show ¬ M.c.at' ≤ b.fl + 1 by have := Hd.out; omega)]
      exact ⟨rfl, HA3.out.keep (p := fun l => l = none) (Step.setCells L (by exact HLR.out) [.int .i64 2, .int .i64 0, .string ⟨#[]⟩, .string ⟨#[]⟩, .string ⟨#[]⟩, .int .i64 p, .int .i64 1] w3 0) (fun q h => by cases h), HS3.out.newCells (Nat.le_refl _) [.int .i64 2, .int .i64 0, .string ⟨#[]⟩, .string ⟨#[]⟩, .string ⟨#[]⟩, .int .i64 p, .int .i64 1] 0⟩
  · have n0 : X.cell? ⟨w.heap.size, 0, none⟩ = some (.int .i64 0) := HNX.out.cell 0
    have n1 : X.cell? ⟨w.heap.size, 1, none⟩ = some (.int .i64 0) := HNX.out.cell 1
    have n2 : X.cell? ⟨w.heap.size, 2, none⟩ = some (.string ⟨#[]⟩) := HNX.out.cell 2
    have n3 : X.cell? ⟨w.heap.size, 3, none⟩ = some (.string ⟨#[]⟩) := HNX.out.cell 3
    have n4 : X.cell? ⟨w.heap.size, 4, none⟩ = some (.string ⟨#[]⟩) := HNX.out.cell 4
    have n5 : X.cell? ⟨w.heap.size, 5, none⟩ = some (.int .i64 0) := HNX.out.cell 5
    have n6 : X.cell? ⟨w.heap.size, 6, none⟩ = some (.int .i64 0) := HNX.out.cell 6
    have nf := fun o => HNX.out.frozen o
    have hnl := HNX.out.lt
    go_wp2_with fail
    have hR := Blk.set7 HNX.out rfl (.int .i64 1) (.int .i64 0) (.string ⟨#[]⟩) (.string ⟨#[]⟩) (.string ⟨#[]⟩) (.int .i64 p) (.int .i64 0)
    refine bodyPost_ret (v := .agg #[.int .i64 1, .int .i64 0, .string ⟨#[]⟩, .string ⟨#[]⟩, .string ⟨#[]⟩, .int .i64 p, .int .i64 0]) (results_cell1 Tryz.results73 rfl (run_loadVar_mid _ _ 0 151 [.int .i64 1, .int .i64 0, .string ⟨#[]⟩, .string ⟨#[]⟩, .string ⟨#[]⟩, .int .i64 p, .int .i64 0] _ (hR.range 0 _ rfl) Tryz.underlying151 rfl infoEv)) rfl ?_
    rw [HEq.out, if_pos trivial]
    exact ⟨rfl, HA2.out.keep (p := fun l => l = none) (Step.setCells L (by exact HLR.out) [.int .i64 1, .int .i64 0, .string ⟨#[]⟩, .string ⟨#[]⟩, .string ⟨#[]⟩, .int .i64 p, .int .i64 0] X 0) (fun q h => by cases h), HS2.out.newCells (Nat.le_refl _) [.int .i64 1, .int .i64 0, .string ⟨#[]⟩, .string ⟨#[]⟩, .string ⟨#[]⟩, .int .i64 p, .int .i64 0] 0⟩

theorem settle_any (L : Labs) (who g d p : Nat) (M : Ag) (o : Out) (b : Bat) (r : Ret) (good : Bool) (draw : Int) (w : World) (hA : AgentAt w L who g M) (hs : SetOk M d o p b r draw) :
    Calls Tryz.prog 73 #[.pointer (some ⟨g, 0, none⟩), .int .i64 d, .bool good, .int .i64 draw] w fun e w' => e = .returned (M.settled d good draw).2.val ∧ Turned w L who g (M.settled d good draw).1 w' := by
  refine (settle_core (clip L w.heap.size) who g d p M o b r good draw w (fun k hk => clip_none L hk) (hA.keep (Step.clipped (p := fun _ => False) L w) (fun _ h => h)) hs).mono ?_
  rintro e w' ⟨rfl, h1, h2⟩
  exact ⟨rfl, _, h1, (Step.clipped L w).trans h2⟩
end Go.Proofs.YtojpjaifhjigfaaGreatDoor

/- giveUp: each send that has been under way for too long ends. -/
namespace Go.Proofs.YtojpjaifhjigfaaGreatDoor
open Go.RowKit Go.Maps

/-- What one destination asks of an agent: all is within its bounds; what is under way is pending. -/
structure OutOk (M : Ag) (d : Nat) (o : Out) : Prop where
  r0 : 0 ≤ o.res
  r1 : o.res ≤ 63
  l0 : 0 ≤ o.fl
  l1 : o.fl ≤ o.res
  w0 : o.way = -1 ∨ ∃ (p : Nat) (b : Bat) (r : Ret), o.way = p ∧ M.bs[p]? = some b ∧ M.rt[p]? = some r ∧ b.st = 1 ∧ b.dst = d ∧ 0 ≤ b.fl ∧ b.fl < M.c.at' ∧ M.c.ba ≤ r.pa ∧ r.pa ≤ M.c.ca
  b0 : 0 ≤ o.began
  b1 : o.began ≤ M.now

/-- What giveUp wants. -/
structure GiveOk (M : Ag) (draw : Int) : Prop where
  c : M.c.Ok
  dr : 0 ≤ draw
  n0 : 0 ≤ M.now
  n1 : M.now ≤ 1000000000000000000
  o4 : M.os.length ≤ 4
  os : ∀ d o, M.os[d]? = some o → OutOk M d o

/-- What stays of an agent as long as giveUp goes on: all but destinations and pauses. -/
structure Gave (M M' : Ag) (k : Nat) : Prop where
  c : M'.c = M.c
  D : M'.D = M.D
  ns : M'.ns = M.ns
  bs : M'.bs = M.bs
  dead : M'.dead = M.dead
  log : M'.log = M.log
  now : M'.now = M.now
  len : M'.os.length = M.os.length
  os : ∀ d, k ≤ d → M'.os[d]? = M.os[d]?
  rl : M'.rt.length = M.rt.length
  rt : ∀ (p : Nat) (r : Ret), M.rt[p]? = some r → M.c.ba ≤ r.pa → r.pa ≤ M.c.ca → ∃ r' : Ret, M'.rt[p]? = some r' ∧ M.c.ba ≤ r'.pa ∧ r'.pa ≤ M.c.ca

theorem Gave.refl (M : Ag) : Gave M M 0 := ⟨rfl, rfl, rfl, rfl, rfl, rfl, rfl, rfl, fun _ _ => rfl, rfl, fun _ r h h1 h2 => ⟨r, h, h1, h2⟩⟩
theorem Gave.step {M M' : Ag} {k : Nat} (h : Gave M M' k) : Gave M M' (k + 1) := ⟨h.c, h.D, h.ns, h.bs, h.dead, h.log, h.now, h.len, fun d hd => h.os d (by omega), h.rl, h.rt⟩

theorem Gave.mono0 {M M' : Ag} (h : Gave M M' 0) (k : Nat) : Gave M M' k := ⟨h.c, h.D, h.ns, h.bs, h.dead, h.log, h.now, h.len, fun d _ => h.os d (Nat.zero_le _), h.rl, h.rt⟩
theorem heard_gave (M : Ag) (d : Nat) (o : Out) (good : Bool) : Gave M (M.heard d o good) (d + 1) :=
  ⟨rfl, rfl, rfl, rfl, rfl, rfl, rfl, by simp [Ag.heard], fun i hi => by simp only [Ag.heard]; rw [List.getElem?_set_ne (by omega)], rfl, fun _ r h h1 h2 => ⟨r, h, h1, h2⟩⟩
theorem paused_gave {M M' : Ag} {k : Nat} (h : Gave M M' k) (hc : M.c.Ok) (p : Nat) (r : Ret) (draw : Int) (hr1 : M.c.ba ≤ r.pa) : Gave M (M'.paused p r draw) k := by
  refine ⟨h.c, h.D, h.ns, h.bs, h.dead, h.log, h.now, h.len, h.os, by simp [Ag.paused, h.rl], fun q x hx h1 h2 => ?_⟩
  obtain ⟨r', e1, e2, e3⟩ := h.rt q x hx h1 h2
  simp only [Ag.paused]
  rw [List.getElem?_set]
  split
  · rename_i e
    subst e
    have hb := nextPause_bd hc (draw := draw) hr1
    rw [h.c]
    exact ⟨_, by rw [if_pos (List.getElem?_eq_some_iff.1 e1).1], hb.1, hb.2⟩
  · exact ⟨r', e1, e2, e3⟩
theorem Gave.trans {M M1 M2 : Ag} {k j : Nat} (h : Gave M M1 k) (g : Gave M1 M2 j) (hkj : k ≤ j) : Gave M M2 j :=
  ⟨g.c.trans h.c, g.D.trans h.D, g.ns.trans h.ns, g.bs.trans h.bs, g.dead.trans h.dead, g.log.trans h.log, g.now.trans h.now, g.len.trans h.len, fun d hd => (g.os d hd).trans (h.os d (by omega)), g.rl.trans h.rl, fun p r hr h1 h2 => by
    obtain ⟨r1, a1, a2, a3⟩ := h.rt p r hr h1 h2
    obtain ⟨r2, b1, b2, b3⟩ := g.rt p r1 a1 (by rw [h.c]; exact a2) (by rw [h.c]; exact a3)
    exact ⟨r2, b1, by rw [h.c] at b2; exact b2, by rw [h.c] at b3; exact b3⟩⟩

/-- settle's wants, at a destination that giveUp comes to. -/
theorem GiveOk.set {M M' : Ag} {draw : Int} {k : Nat} {o : Out} (h : GiveOk M draw) (g : Gave M M' k) (ho : M.os[k]? = some o) (hw : o.way ≠ -1) : ∃ p b r, SetOk M' k o p b r draw ∧ b.st = 1 ∧ b.dst = k ∧ M.bs[p]? = some b ∧ b.fl < M.c.at' := by
  have ok := h.os k o ho
  rcases ok.w0 with e | ⟨p, b, r, h1, h2, h3, h4, h5, h6, h7, h8, h9⟩
  · exact absurd e hw
  · obtain ⟨r', a1, a2, a3⟩ := g.rt p r h3 h8 h9
    have hat := h.c.at'
    exact ⟨p, b, r', ⟨(g.os k (Nat.le_refl _)).trans ho, h1, by rw [g.bs]; exact h2, a1, h6, by omega, ok.r0, ok.r1, ok.l0, ok.l1, by rw [g.c]; exact h.c, by rw [g.c]; exact a2, by rw [g.c]; exact a3, h.dr, by rw [g.now]; exact h.n0, by rw [g.now]; exact h.n1⟩, h4, h5, h2, h7⟩
theorem settled_gave {M : Ag} {d : Nat} {o : Out} {p : Nat} {b : Bat} {r : Ret} {draw : Int} (h : SetOk M d o p b r draw) (good : Bool) : Gave M (M.settled d good draw).1 (d + 1) := by
  rw [settled_eq h good]
  split
  · exact heard_gave M d o good
  split
  · exact heard_gave M d o good
  · exact paused_gave (heard_gave M d o good) h.c p r draw h.p1
theorem gaveUp_gave {M : Ag} {draw : Int} (h : GiveOk M draw) : ∀ k, Gave M (M.gaveUp draw k).1 k
  | 0 => Gave.refl M
  | k + 1 => by
    have ih := gaveUp_gave h k
    unfold Ag.gaveUp
    cases ho : M.os[k]? with
    | none => simpa [ho] using ih.step
    | some o =>
      simp only
      split
      · rename_i hw
        obtain ⟨p, b, r, hs, _⟩ := h.set ih ho hw.1
        exact ih.trans (settled_gave hs false) (by omega)
      · exact ih.step
theorem gaveUp_len {M : Ag} {draw : Int} : ∀ k, (M.gaveUp draw k).2.length ≤ k
  | 0 => Nat.le_refl _
  | k + 1 => by
    have ih := gaveUp_len (M := M) (draw := draw) k
    unfold Ag.gaveUp
    cases ho : M.os[k]? with
    | none => simp only; omega
    | some o =>
      simp only
      split
      · simp; omega
      · omega
end Go.Proofs.YtojpjaifhjigfaaGreatDoor
