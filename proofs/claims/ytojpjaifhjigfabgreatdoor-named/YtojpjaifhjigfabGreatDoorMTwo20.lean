/- Steps of the proof (several texts in one): Run3, Run4, Run5. -/
import Derived.Test.YtojpjaifhjigfabGreatDoorMTwo19

/- conduitkeep: went. -/
namespace Go.Proofs.YtojpjaifhjigfabGreatDoor
open Go.RowKit Go.Maps

theorem infoWay1 : (Tryz.prog.info? 75).map (·.size) = some 3 := by kernel_rfl
theorem infoFact1 : (Tryz.prog.info? 50).map (·.size) = some 8 := by kernel_rfl
theorem RunAt.lt {w : World} {L : Labs} {gr g cm : Nat} {c : Cfg} {R : Rn} (h : RunAt w L gr g cm c R) : gr < w.heap.size := by
  obtain ⟨_, _, h⟩ := h
  exact h.blk.1.lt
/-- While went looks: the run, the send, and that nothing else has turned. -/
structure WentAt (w W : World) (L : Labs) (gr g cm : Nat) (c : Cfg) (gf fk gw wk : Nat) (R : Rn) (d : Nat) (tr : Int) (sid sbo : List UInt8) : Prop where
  r : RunP W L gr g cm c (.slice (some ⟨gf, 0, none⟩) R.fs.length fk) (.slice (some ⟨gw, 0, none⟩) R.ws.length wk) R
  b : Blk W w.heap.size #[.int .i64 (d : Int), .int .i64 tr, encStr sid, encStr sbo] 111
  s : Step (ofP 0) L w L W
theorem WentAt.below {w W W' : World} {L : Labs} {gr g cm : Nat} {c : Cfg} {gf fk gw wk : Nat} {R : Rn} {d : Nat} {tr : Int} {sid sbo : List UInt8} (h : WentAt w W L gr g cm c gf fk gw wk R d tr sid sbo) (hb : Below W.heap.size W W') : WentAt w W' L gr g cm c gf fk gw wk R d tr sid sbo :=
  ⟨h.r.keep (Step.of_below (p := fun _ => False) hb) (fun _ h => h), h.b.below hb h.b.lt, h.s.trans (Step.of_below hb)⟩
theorem runCells_17 (g cm : Nat) (c : Cfg) (fv wv : Value) (R : Rn) : (runCells g cm c fv wv R).setIfInBounds 17 (.bool true) = runCells g cm c fv wv R := by
  apply Array.ext'
  rw [Array.toList_setIfInBounds]
  rfl
theorem WentAt.fine {w W : World} {L : Labs} {gr g cm : Nat} {c : Cfg} {gf fk gw wk : Nat} {R : Rn} {d : Nat} {tr : Int} {sid sbo : List UInt8} (h : WentAt w W L gr g cm c gf fk gw wk R d tr sid sbo) (hne : gr ≠ w.heap.size) : WentAt w (W.setCell ⟨gr, 17, none⟩ (.bool true)) L gr g cm c gf fk gw wk R d tr sid sbo := by
  have s1 : Step (fun l => l = some (0, .ag)) L W L (W.setCell ⟨gr, 17, none⟩ (.bool true)) := Step.setCell _ _ _ _ h.r.blk.2
  refine ⟨⟨⟨?_, h.r.blk.2⟩, h.r.fa.keep s1 (by simp), h.r.wy.keep s1 (by simp)⟩, h.b.other _ _ (by simpa using hne.symm), h.s.trans (step0 s1)⟩
  have := h.r.blk.1.set 17 (.bool true)
  rw [runCells_17] at this
  exact this
theorem WentAt.ways {w W : World} {L : Labs} {gr g cm : Nat} {c : Cfg} {gf fk gw wk : Nat} {R : Rn} {d : Nat} {tr : Int} {sid sbo : List UInt8} (h : WentAt w W L gr g cm c gf fk gw wk R d tr sid sbo) {y : Wy} (hy : R.ws[d]? = some y) : W.cell? ⟨gw, d * 3, none⟩ = some (.int .i64 y.f) ∧ W.cell? ⟨gw, d * 3 + 1, none⟩ = some (.int .i64 y.tr) ∧ W.cell? ⟨gw, d * 3 + 2, none⟩ = some (.int .i64 y.bg) := by
  obtain ⟨gw', wk', e, _, hc, _⟩ := h.r.way hy
  simp only [Value.slice.injEq, Option.some.injEq, Addr.mk.injEq, true_and, and_true] at e
  obtain ⟨rfl, _⟩ := e
  exact ⟨hc 0 _ rfl, hc 1 _ rfl, hc 2 _ rfl⟩
theorem WentAt.facts {w W : World} {L : Labs} {gr g cm : Nat} {c : Cfg} {gf fk gw wk : Nat} {R : Rn} {d : Nat} {tr : Int} {sid sbo : List UInt8} (h : WentAt w W L gr g cm c gf fk gw wk R d tr sid sbo) {p : Nat} {f : Fa} (hf : R.fs[p]? = some f) : W.rangeAt gf (p * 8) f.cells ∧ ∀ o, W.frozen? ⟨gf, o, none⟩ = false := by
  obtain ⟨gf', fk', e, _, hc, hfz⟩ := h.r.fact hf
  simp only [Value.slice.injEq, Option.some.injEq, Addr.mk.injEq, true_and, and_true] at e
  obtain ⟨rfl, _⟩ := e
  exact ⟨fun j v hv => hc j v hv, hfz⟩

/-- A way is laid anew. -/
theorem RunP.layWay {w : World} {L : Labs} {gr g cm gw wk : Nat} {c : Cfg} {fv : Value} {R : Rn} (h : RunP w L gr g cm c fv (.slice (some ⟨gw, 0, none⟩) R.ws.length wk) R) {d : Nat} {y : Wy} (hy : R.ws[d]? = some y) (y3 : Wy) : RunP (((w.setCell ⟨gw, d * 3, none⟩ (.int .i64 y3.f)).setCell ⟨gw, d * 3 + 1, none⟩ (.int .i64 y3.tr)).setCell ⟨gw, d * 3 + 2, none⟩ (.int .i64 y3.bg)) L gr g cm c fv (.slice (some ⟨gw, 0, none⟩) R.ws.length wk) { R with ws := R.ws.set d y3 } ∧ Step (ofP 0) L w L (((w.setCell ⟨gw, d * 3, none⟩ (.int .i64 y3.f)).setCell ⟨gw, d * 3 + 1, none⟩ (.int .i64 y3.tr)).setCell ⟨gw, d * 3 + 2, none⟩ (.int .i64 y3.bg)) := by
  have hd := (List.getElem?_eq_some_iff.1 hy).1
  obtain ⟨h1, s1⟩ := h.setWay hy 0 (.int .i64 y3.f) (by omega) (y' := ⟨y3.f, y.tr, y.bg⟩) rfl
  have e1 : ({ R with ws := R.ws.set d ⟨y3.f, y.tr, y.bg⟩ } : Rn).ws.length = R.ws.length := by simp
  obtain ⟨h2, s2⟩ := RunP.setWay (R := { R with ws := R.ws.set d ⟨y3.f, y.tr, y.bg⟩ }) (by rw [e1]; exact h1) (show (R.ws.set d ⟨y3.f, y.tr, y.bg⟩)[d]? = some ⟨y3.f, y.tr, y.bg⟩ by rw [List.getElem?_set_self hd]) 1 (.int .i64 y3.tr) (by omega) (y' := ⟨y3.f, y3.tr, y.bg⟩) rfl
  rw [e1] at h2
  simp only [List.set_set] at h2
  have e2 : ({ R with ws := R.ws.set d ⟨y3.f, y3.tr, y.bg⟩ } : Rn).ws.length = R.ws.length := by simp
  obtain ⟨h3, s3⟩ := RunP.setWay (R := { R with ws := R.ws.set d ⟨y3.f, y3.tr, y.bg⟩ }) (by rw [e2]; exact h2) (show (R.ws.set d ⟨y3.f, y3.tr, y.bg⟩)[d]? = some ⟨y3.f, y3.tr, y.bg⟩ by rw [List.getElem?_set_self hd]) 2 (.int .i64 y3.bg) (by omega) (y' := y3) rfl
  rw [e2] at h3
  simp only [List.set_set] at h3
  exact ⟨h3, (step0 s1).trans ((step0 s2).trans (step0 s3))⟩

set_option maxRecDepth 100000 in
set_option maxHeartbeats 4000000 in
theorem kwent_any (L : Labs) (gr g cm : Nat) (c : Cfg) (R : Rn) (s : Sd) (d p : Nat) (y : Wy) (f : Fa) (w : World) (h : RunAt w L gr g cm c R) (hl : R.fs.length ≤ 120) (hd : s.d = d) (hy : R.ws[d]? = some y) (hf : R.fs[p]? = some f) (hid : f.b.id = s.id) (hno : ∀ j f', j < p → R.fs[j]? = some f' → f'.b.id ≠ s.id)
    (h1 : y.f = -1) (h2 : s.try' = y.tr + 1) (h3 : f.b.body = s.body) (h4 : f.b.dst = d) (h5 : f.b.st = 1) (h6 : f.af ≤ R.time) (h7 : 0 ≤ y.tr ∧ y.tr ≤ 1000000000000000) (h8 : 0 ≤ f.sn ∧ f.sn ≤ 1000000000000000) :
    Calls Tryz.prog 51 #[.pointer (some ⟨gr, 0, none⟩), .agg s.cells.toArray] w fun e w' => e = .returned (.tuple #[]) ∧ RunAt w' L gr g cm c { R with ws := R.ws.set d ⟨p, s.try', R.time⟩, fs := R.fs.set p { f with sn := f.sn + 1 } } ∧ Step (ofP 0) L w L w' := by
  have HFnd := hide (fun W (hW : RunAt W L gr g cm c R) => kfind_any L gr g cm c R p f s.id W hW hl hf hid hno)
  have H := hide h
  obtain ⟨sd, st, sid, sbo⟩ := s
  simp only at hd h2 h3 HFnd
  subst hd
  obtain ⟨yf, ytr, ybg⟩ := y
  simp only at h1 h2 h7
  subst h1
  subst h2
  have hpl := (List.getElem?_eq_some_iff.1 hf).1
  have hdl := (List.getElem?_eq_some_iff.1 hy).1
  have Hf := hide hf
  have Hy := hide hy
  clear h hid hno hf hy hl
  show Calls Tryz.prog 51 #[.pointer (some ⟨gr, 0, none⟩), .agg #[.int .i64 (d : Int), .int .i64 (ytr + 1), encStr sid, encStr sbo]] w _
  simp only
  go_enter Tryz.func51, Tryz.ntmps51
  go_wp2_with fail
  generalize hW0 : World.alloc w _ = W0
  have hB0 : Blk W0 w.heap.size #[.int .i64 (d : Int), .int .i64 (ytr + 1), encStr sid, encStr sbo] 111 := by rw [← hW0]; exact Blk.new w _ _
  have hS0 : Step (fun _ => False) L w L W0 := by rw [← hW0]; exact Step.alloc L w _
  have hR0 : RunAt W0 L gr g cm c R := H.out.keep hS0 (fun _ h => h)
  have HS0 := hide hS0
  have hz0 : W0.heap.size = w.heap.size + 1 := by rw [← hW0]; simp
  have Hz0 := hide hz0
  clear hW0 hS0 hz0
  refine (HFnd.out W0 hR0).mono ?_
  rintro _ _ ⟨rfl, rfl⟩
  obtain ⟨fv, wv, hP0⟩ := H.out
  have hP : RunP W0 L gr g cm c fv wv R := hP0.keep HS0.out (fun _ h => h)
  obtain ⟨gf, fk, rfl, hgf, hcf, hff⟩ := hP.fact Hf.out
  obtain ⟨gw, wk, rfl, hgwo, _, _⟩ := hP0.way Hy.out
  obtain ⟨gw', wk', egw, hgw, hcw, hfw⟩ := hP.way Hy.out
  simp only [Value.slice.injEq, Option.some.injEq, Addr.mk.injEq, true_and, and_true] at egw
  obtain ⟨rfl, rfl⟩ := egw
  have hgrl := hP.blk.1.lt
  have c12 : W0.cell? ⟨gr, 12, none⟩ = some (.slice (some ⟨gf, 0, none⟩) R.fs.length fk) := hP.blk.1.cell 12
  have c13 : W0.cell? ⟨gr, 13, none⟩ = some (.slice (some ⟨gw, 0, none⟩) R.ws.length wk) := hP.blk.1.cell 13
  have HP := hide hP
  have HBx := hide hB0
  have b0 : W0.cell? ⟨w.heap.size, 0, none⟩ = some (.int .i64 (d : Int)) := hB0.cell 0
  have y0 : W0.cell? ⟨gw, d * 3, none⟩ = some (.int .i64 (-1)) := hcw 0 _ rfl
  have y1 : W0.cell? ⟨gw, d * 3 + 1, none⟩ = some (.int .i64 ytr) := hcw 1 _ rfl
  have y2 : W0.cell? ⟨gw, d * 3 + 2, none⟩ = some (.int .i64 ybg) := hcw 2 _ rfl
  have Hgwn : Hid (¬ (gw = w.heap.size)) := fun e => by omega
  have hpI : (p : Int) < (R.fs.length : Int) := by omega
  have hdI : (d : Int) < (R.ws.length : Int) := by omega
  have hp0 : ¬ ((p : Int) < 0) := by omega
  have hd0 : ¬ ((d : Int) < 0) := by omega
  have hdn : ¬ ((R.ws.length : Int) ≤ (d : Int)) := by omega
  clear hcf hcw hff hfw hP hB0 hP0
  go_wp2_with fail
  go_quiet (fail)
  go_wp2_with fail
  have HA0 : Hid (WentAt w (W0.drewN nq) L gr g cm c gf fk gw wk R d (ytr + 1) sid sbo) := ⟨HP.out.keep (Step.drewN (p := fun _ => False) L W0 nq) (fun _ h => h), HBx.out, (HS0.out.mono (fun _ h => h.elim)).trans (Step.drewN L W0 nq)⟩
  have hz1 : (W0.drewN nq).heap.size = w.heap.size + 1 := Hz0.out
  generalize W0.drewN nq = V0 at *
  have k13 : V0.cell? ⟨gr, 13, none⟩ = some (.slice (some ⟨gw, 0, none⟩) R.ws.length wk) := HA0.out.r.blk.1.cell 13
  have b0 : V0.cell? ⟨w.heap.size, 0, none⟩ = some (.int .i64 (d : Int)) := HA0.out.b.cell 0
  obtain ⟨y0, y1, y2⟩ := HA0.out.ways Hy.out
  simp only at y0 y1 y2
  have hgrl := HA0.out.r.blk.1.lt
  have hgwl : gw < V0.heap.size := World.block_lt_of_cell? V0 _ y0
  clear HP HBx HS0 Hz0
  go_cut [5] (fun s5 wx => s5 = .pointer (some ⟨w.heap.size + 1, 0, none⟩) ∧ Blk wx (w.heap.size + 1) #[.int .i64 (-1), .int .i64 ytr, .int .i64 ybg] 75 ∧ WentAt w wx L gr g cm c gf fk gw wk R d (ytr + 1) sid sbo ∧ wx.heap.size = w.heap.size + 2)
  case first =>
    have n13 := World.new_ne V0 ⟨gr, 13, none⟩ k13
    have nb0 := World.new_ne V0 ⟨w.heap.size, 0, none⟩ b0
    have n0 := World.new_ne V0 ⟨gw, d * 3, none⟩ y0
    have n1 := World.new_ne V0 ⟨gw, d * 3 + 1, none⟩ y1
    have n2 := World.new_ne V0 ⟨gw, d * 3 + 2, none⟩ y2
    go_region_held3 (fun w' => w'.cell? ⟨gr, 13, none⟩ = some (.slice (some ⟨gw, 0, none⟩) R.ws.length wk) ∧ w'.cell? ⟨w.heap.size, 0, none⟩ = some (.int .i64 (d : Int)) ∧ w'.cell? ⟨gw, d * 3, none⟩ = some (.int .i64 (-1)) ∧ w'.cell? ⟨gw, d * 3 + 1, none⟩ = some (.int .i64 ytr) ∧ w'.cell? ⟨gw, d * 3 + 2, none⟩ = some (.int .i64 ybg)) (go_keep) (fail)
    all_goals
      go_wp2_with fail
      go_meet
      refine ⟨rfl, Blk.made hz1 _ _, HA0.out.below (((Below.refl _ _).alloc (Nat.le_refl _) _).drew), ?_⟩
      show (V0.alloc _).heap.size = _
      rw [World.size_alloc, hz1]
  case rest =>
    obtain ⟨rfl, hY, hA, hz2⟩ := hcut
    have HA1 := hide hA
    have HY := hide hY
    have k12 : wc.cell? ⟨gr, 12, none⟩ = some (.slice (some ⟨gf, 0, none⟩) R.fs.length fk) := hA.r.blk.1.cell 12
    have HRg := hide (hA.facts Hf.out).1
    obtain ⟨⟨fd, ften, fid, fbo, fst', ffl⟩, faf, fsn⟩ := f
    simp only at h3 h4 h5 h6 h8
    subst h3 h4 h5
    clear hY hA HA0 k13 b0 y0 y1 y2 hgwl hgrl hz1
    go_wp2_with (first
      | (refine wpList_load_mid rfl 50 _ rfl gf (p * 8) rfl [.int .i64 (d : Int), encStr ften, encStr fid, encStr fbo, .int .i64 1, .int .i64 ffl, .int .i64 faf, .int .i64 fsn] _ HRg.out Tryz.underlying50 rfl infoFact1 ?_)
      | fail)
    generalize hW2 : World.alloc wc _ = W2
    have hb2 : Below wc.heap.size wc W2 := by rw [← hW2]; exact (Below.refl _ _).alloc (Nat.le_refl _) _
    have hF2 : Blk W2 (w.heap.size + 2) #[.int .i64 (d : Int), encStr ften, encStr fid, encStr fbo, .int .i64 1, .int .i64 ffl, .int .i64 faf, .int .i64 fsn] 50 := by rw [← hW2]; exact Blk.made hz2 _ _
    have hY2 := HY.out.below hb2 HY.out.lt
    have hA2 := HA1.out.below hb2
    have HA2 := hide hA2
    have k17 : W2.cell? ⟨gr, 17, none⟩ = some (.bool true) := hA2.r.blk.1.cell 17
    have kf17 : W2.frozen? ⟨gr, 17, none⟩ = false := hA2.r.blk.1.frozen 17
    have k14 : W2.cell? ⟨gr, 14, none⟩ = some (.int .i64 R.time) := hA2.r.blk.1.cell 14
    have b0 : W2.cell? ⟨w.heap.size, 0, none⟩ = some (.int .i64 (d : Int)) := hA2.b.cell 0
    have b1 : W2.cell? ⟨w.heap.size, 1, none⟩ = some (.int .i64 (ytr + 1)) := hA2.b.cell 1
    have b3 : W2.cell? ⟨w.heap.size, 3, none⟩ = some (encStr fbo) := hA2.b.cell 3
    have y0 : W2.cell? ⟨w.heap.size + 1, 0, none⟩ = some (.int .i64 (-1)) := hY2.cell 0
    have y1 : W2.cell? ⟨w.heap.size + 1, 1, none⟩ = some (.int .i64 ytr) := hY2.cell 1
    have f0 : W2.cell? ⟨w.heap.size + 2, 0, none⟩ = some (.int .i64 (d : Int)) := hF2.cell 0
    have f3 : W2.cell? ⟨w.heap.size + 2, 3, none⟩ = some (encStr fbo) := hF2.cell 3
    have f4 : W2.cell? ⟨w.heap.size + 2, 4, none⟩ = some (.int .i64 1) := hF2.cell 4
    have f6 : W2.cell? ⟨w.heap.size + 2, 6, none⟩ = some (.int .i64 faf) := hF2.cell 6
    have hgrw : gr < w.heap.size := H.out.lt
    have hwtr : IntKind.i64.wrap (ytr + 1) = ytr + 1 := IntWalk.i64_in _ (by omega)
    have hne1 : ¬ (gr = w.heap.size) := by omega
    have hne2 : ¬ (gr = w.heap.size + 1) := by omega
    have hne3 : ¬ (gr = w.heap.size + 2) := by omega
    have m17 : (W2.setCell ⟨gr, 17, none⟩ (.bool true)).cell? ⟨gr, 17, none⟩ = some (.bool true) := (hA2.fine (by omega)).r.blk.1.cell 17
    have m14 : (W2.setCell ⟨gr, 17, none⟩ (.bool true)).cell? ⟨gr, 14, none⟩ = some (.int .i64 R.time) := (hA2.fine (by omega)).r.blk.1.cell 14
    have m17d : (W2.setCell ⟨gr, 17, none⟩ (.bool true)).drew.cell? ⟨gr, 17, none⟩ = some (.bool true) := m17
    have m14d : (W2.setCell ⟨gr, 17, none⟩ (.bool true)).drew.cell? ⟨gr, 14, none⟩ = some (.int .i64 R.time) := m14
    have HFine := hide (hA2.fine (by omega))
    clear hY2 hF2 hA2 hb2 hW2 HA1 HY HRg k12
    generalize hgB : w.heap.size = gB at *
    have HgB := hide hgB
    clear hgB
    go_cut [] (fun wx => WentAt w wx L gr g cm c gf fk gw wk R d (ytr + 1) sid fbo)
    case first =>
      go_region_held3 (fun w' => w'.cell? ⟨gr, 17, none⟩ = some (.bool true) ∧ w'.cell? ⟨gr, 14, none⟩ = some (.int .i64 R.time) ∧ w'.cell? ⟨gB, 0, none⟩ = some (.int .i64 (d : Int)) ∧ w'.cell? ⟨gB, 1, none⟩ = some (.int .i64 (ytr + 1)) ∧ w'.cell? ⟨gB, 3, none⟩ = some (encStr fbo) ∧ w'.cell? ⟨gB + 1, 0, none⟩ = some (.int .i64 (-1)) ∧ w'.cell? ⟨gB + 1, 1, none⟩ = some (.int .i64 ytr) ∧ w'.cell? ⟨gB + 2, 0, none⟩ = some (.int .i64 (d : Int)) ∧ w'.cell? ⟨gB + 2, 3, none⟩ = some (encStr fbo) ∧ w'.cell? ⟨gB + 2, 4, none⟩ = some (.int .i64 1) ∧ w'.cell? ⟨gB + 2, 6, none⟩ = some (.int .i64 faf)) (go_keep) (fail)
      all_goals
        go_wp2_with fail
        go_meet
        first
          | exact HFine.out.below (Below.refl _ _).drew
          | exact HFine.out
    case rest =>
      have HA3 := hide hcut
      have k13 : wc.cell? ⟨gr, 13, none⟩ = some (.slice (some ⟨gw, 0, none⟩) R.ws.length wk) := hcut.r.blk.1.cell 13
      have k14 : wc.cell? ⟨gr, 14, none⟩ = some (.int .i64 R.time) := hcut.r.blk.1.cell 14
      have b0 : wc.cell? ⟨gB, 0, none⟩ = some (.int .i64 (d : Int)) := HgB.out ▸ hcut.b.cell 0
      have b1 : wc.cell? ⟨gB, 1, none⟩ = some (.int .i64 (ytr + 1)) := HgB.out ▸ hcut.b.cell 1
      obtain ⟨y0, y1, y2⟩ := hcut.ways Hy.out
      simp only at y0 y1 y2
      have fz : ∀ o, wc.frozen? ⟨gw, o, none⟩ = false := by
        obtain ⟨gw', wk', e, _, _, hc⟩ := hcut.r.way Hy.out
        simp only [Value.slice.injEq, Option.some.injEq, Addr.mk.injEq, true_and, and_true] at e
        obtain ⟨rfl, _⟩ := e
        exact hc
      have fz0 := fz (d * 3)
      have fz1 := fz (d * 3 + 1)
      have fz2 := fz (d * 3 + 2)
      have hn1 : ¬ (gw = gr) := fun e => by have q1 := hcut.r.wy.2 gw rfl; have q2 := hcut.r.blk.2; rw [e, q2] at q1; cases q1
      have hn2 : ¬ (gw = gB) := Hgwn.out
      have hn1' : ¬ (gr = gw) := fun e => hn1 e.symm
      have hn2' : ¬ (gB = gw) := fun e => hn2 e.symm
      have HLay := hide (hcut.r.layWay Hy.out ⟨p, ytr + 1, R.time⟩)
      clear hcut fz
      go_wp2_with fail
      go_cut [] (fun wx => RunP wx L gr g cm c (.slice (some ⟨gf, 0, none⟩) R.fs.length fk) (.slice (some ⟨gw, 0, none⟩) R.ws.length wk) { R with ws := R.ws.set d ⟨p, ytr + 1, R.time⟩ } ∧ Step (ofP 0) L w L wx)
      case first =>
        go_region_held3 (fun w' => w'.cell? ⟨gr, 13, none⟩ = some (.slice (some ⟨gw, 0, none⟩) R.ws.length wk) ∧ w'.cell? ⟨gr, 14, none⟩ = some (.int .i64 R.time) ∧ w'.cell? ⟨gB, 0, none⟩ = some (.int .i64 (d : Int)) ∧ w'.cell? ⟨gB, 1, none⟩ = some (.int .i64 (ytr + 1))) (go_keep) (fail)
        all_goals
          go_wp2_with fail
          go_meet
          obtain ⟨q1, q2⟩ := HLay.out
          first
            | exact ⟨q1.keep (Step.drew (p := fun _ => False) L _) (fun _ h => h), HA3.out.s.trans (q2.trans (Step.drew L _))⟩
            | exact ⟨q1, HA3.out.s.trans q2⟩
      case rest =>
        obtain ⟨hP4, hS4⟩ := hcut
        have j12 : wc.cell? ⟨gr, 12, none⟩ = some (.slice (some ⟨gf, 0, none⟩) R.fs.length fk) := hP4.blk.1.cell 12
        have j7 : wc.cell? ⟨gf, p * 8 + 7, none⟩ = some (.int .i64 fsn) := by
          obtain ⟨gf', fk', e, _, hc, _⟩ := hP4.fact Hf.out
          simp only [Value.slice.injEq, Option.some.injEq, Addr.mk.injEq, true_and, and_true] at e
          obtain ⟨rfl, _⟩ := e
          exact hc 7 _ rfl
        have jf7 : wc.frozen? ⟨gf, p * 8 + 7, none⟩ = false := by
          obtain ⟨gf', fk', e, _, _, hc⟩ := hP4.fact Hf.out
          simp only [Value.slice.injEq, Option.some.injEq, Addr.mk.injEq, true_and, and_true] at e
          obtain ⟨rfl, _⟩ := e
          exact hc _
        have HSet := hide (RunP.setFact (R := { R with ws := R.ws.set d ⟨p, ytr + 1, R.time⟩ }) hP4 Hf.out 7 (.int .i64 (fsn + 1)) (by omega) (f' := ⟨⟨(d : Int), ften, fid, fbo, 1, ffl⟩, faf, fsn + 1⟩) rfl)
        have HS4 := hide hS4
        clear hP4 hS4
        go_wp2_with fail
        first | go_end0 | refine bodyPost_ret (results_none rfl _ _ _) rfl ?_
        exact ⟨rfl, ⟨_, _, HSet.out.1⟩, HS4.out.trans (step0 HSet.out.2)⟩
end Go.Proofs.YtojpjaifhjigfabGreatDoor

/- conduitkeep: look. -/
namespace Go.Proofs.YtojpjaifhjigfabGreatDoor
open Go.RowKit Go.Maps

/-- A batch behind another look: it goes on as it may. -/
structure Goes (at' : Int) (b b' : Bat) : Prop where
  same : b'.dst = b.dst ∧ b'.ten = b.ten ∧ b'.id = b.id ∧ b'.body = b.body
  st : b'.st = 1 ∨ b'.st = 2 ∨ b'.st = 3
  over : b.st ≠ 1 → b'.st = b.st ∧ b'.fl = b.fl
  up : b.fl ≤ b'.fl
  top : b'.fl ≤ at'
  full : b'.fl = at' ↔ b'.st = 3
/-- The facts of which the first k were looked at. -/
def looked (fs : List Fa) (bs : List Bat) (k : Nat) : List Fa := (List.range fs.length).map fun i => match fs[i]?, bs[i]? with
  | some f, some b => if i < k then { f with b := b } else f
  | some f, none => f
  | none, _ => ⟨noBat, 0, 0⟩
theorem looked_at {fs : List Fa} {bs : List Bat} {k i : Nat} {f : Fa} {b : Bat} (hf : fs[i]? = some f) (hb : bs[i]? = some b) : (looked fs bs k)[i]? = some (if i < k then { f with b := b } else f) := by
  have hl := (List.getElem?_eq_some_iff.1 hf).1
  unfold looked
  rw [List.getElem?_map, List.getElem?_range hl]
  simp [hf, hb]
theorem looked_len (fs : List Fa) (bs : List Bat) (k : Nat) : (looked fs bs k).length = fs.length := by simp [looked]
theorem looked_zero {fs : List Fa} {bs : List Bat} (h : bs.length = fs.length) : looked fs bs 0 = fs := by
  apply List.ext_getElem?
  intro i
  by_cases hi : i < fs.length
  · obtain ⟨f, hf⟩ : ∃ f, fs[i]? = some f := ⟨_, List.getElem?_eq_getElem hi⟩
    obtain ⟨b, hb⟩ : ∃ b, bs[i]? = some b := ⟨_, List.getElem?_eq_getElem (by omega)⟩
    rw [looked_at hf hb, if_neg (Nat.not_lt_zero _), hf]
  · rw [List.getElem?_eq_none (by rw [looked_len]; omega), List.getElem?_eq_none (by omega)]
theorem looked_succ {fs : List Fa} {bs : List Bat} {k : Nat} {f : Fa} {b : Bat} (h : bs.length = fs.length) (hf : fs[k]? = some f) (hb : bs[k]? = some b) : (looked fs bs k).set k { f with b := b } = looked fs bs (k + 1) := by
  have hk := (List.getElem?_eq_some_iff.1 hf).1
  apply List.ext_getElem?
  intro i
  by_cases hi : i < fs.length
  · obtain ⟨f', hf'⟩ : ∃ f, fs[i]? = some f := ⟨_, List.getElem?_eq_getElem hi⟩
    obtain ⟨b', hb'⟩ : ∃ b, bs[i]? = some b := ⟨_, List.getElem?_eq_getElem (by omega)⟩
    rw [looked_at hf' hb']
    by_cases e : k = i
    · subst e
      rw [List.getElem?_set_self (by rw [looked_len]; exact hk), if_pos (by omega)]
      rw [hf] at hf'
      rw [hb] at hb'
      cases hf'
      cases hb'
      rfl
    · rw [List.getElem?_set_ne e, looked_at hf' hb']
      by_cases hik : i < k
      · rw [if_pos hik, if_pos (by omega)]
      · rw [if_neg hik, if_neg (by omega)]
  · rw [List.getElem?_eq_none (by rw [List.length_set, looked_len]; omega), List.getElem?_eq_none (by rw [looked_len]; omega)]
theorem looked_all {fs : List Fa} {bs : List Bat} (h : bs.length = fs.length) : (looked fs bs fs.length).map Fa.b = bs ∧ (looked fs bs fs.length).map Fa.af = fs.map Fa.af ∧ (looked fs bs fs.length).map Fa.sn = fs.map Fa.sn := by
  refine ⟨?_, ?_, ?_⟩
  all_goals
    apply List.ext_getElem?
    intro i
    by_cases hi : i < fs.length
    · obtain ⟨f, hf⟩ : ∃ f, fs[i]? = some f := ⟨_, List.getElem?_eq_getElem hi⟩
      obtain ⟨b, hb⟩ : ∃ b, bs[i]? = some b := ⟨_, List.getElem?_eq_getElem (by omega)⟩
      rw [List.getElem?_map, looked_at hf hb, if_pos hi]
      simp [hf, hb]
    · rw [List.getElem?_eq_none (by rw [List.length_map, looked_len]; omega), List.getElem?_eq_none (by first | omega | (rw [List.length_map]; omega))]
end Go.Proofs.YtojpjaifhjigfabGreatDoor

/- conduitkeep: look, walked. -/
namespace Go.Proofs.YtojpjaifhjigfabGreatDoor
open Go.RowKit Go.Maps

/-- What look has at hand. -/
structure LookAt (w W : World) (L : Labs) (gr g cm : Nat) (c : Cfg) (gf fk : Nat) (wv : Value) (R : Rn) (M : Ag) : Prop where
  r : RunP W L gr g cm c (.slice (some ⟨gf, 0, none⟩) R.fs.length fk) wv R
  a : AgentAt W L 1 g M
  s : Step (ofP 0) L w L W
theorem LookAt.below {w W W' : World} {L : Labs} {gr g cm : Nat} {c : Cfg} {gf fk : Nat} {wv : Value} {R : Rn} {M : Ag} (h : LookAt w W L gr g cm c gf fk wv R M) (hb : Below W.heap.size W W') : LookAt w W' L gr g cm c gf fk wv R M :=
  ⟨h.r.keep (Step.of_below (p := fun _ => False) hb) (fun _ h => h), h.a.keep (Step.of_below (p := fun _ => False) hb) (fun _ h => h), h.s.trans (Step.of_below hb)⟩
theorem LookAt.facts {w W : World} {L : Labs} {gr g cm : Nat} {c : Cfg} {gf fk : Nat} {wv : Value} {R : Rn} {M : Ag} (h : LookAt w W L gr g cm c gf fk wv R M) {p : Nat} {f : Fa} (hf : R.fs[p]? = some f) : (∀ j v, f.cells[j]? = some v → W.cell? ⟨gf, p * 8 + j, none⟩ = some v) ∧ ∀ o, W.frozen? ⟨gf, o, none⟩ = false := by
  obtain ⟨gf', fk', e, _, hc, hfz⟩ := h.r.fact hf
  simp only [Value.slice.injEq, Option.some.injEq, Addr.mk.injEq, true_and, and_true] at e
  obtain ⟨rfl, _⟩ := e
  exact ⟨hc, hfz⟩
theorem runCells_18 (g cm : Nat) (c : Cfg) (fv wv : Value) (R : Rn) : (runCells g cm c fv wv R).setIfInBounds 18 (.bool true) = runCells g cm c fv wv R := by
  apply Array.ext'
  rw [Array.toList_setIfInBounds]
  rfl
theorem LookAt.kept {w W : World} {L : Labs} {gr g cm : Nat} {c : Cfg} {gf fk : Nat} {wv : Value} {R : Rn} {M : Ag} (h : LookAt w W L gr g cm c gf fk wv R M) : LookAt w (W.setCell ⟨gr, 18, none⟩ (.bool true)) L gr g cm c gf fk wv R M := by
  have s1 : Step (fun l => l = some (0, .ag)) L W L (W.setCell ⟨gr, 18, none⟩ (.bool true)) := Step.setCell _ _ _ _ h.r.blk.2
  refine ⟨⟨⟨?_, h.r.blk.2⟩, h.r.fa.keep s1 (by simp), h.r.wy.keep s1 (by simp)⟩, h.a.keep s1 (fun q e => by cases e), h.s.trans (step0 s1)⟩
  have := h.r.blk.1.set 18 (.bool true)
  rw [runCells_18] at this
  exact this
/-- A fact is laid anew as it was looked at. -/
theorem LookAt.lay {w W : World} {L : Labs} {gr g cm : Nat} {c : Cfg} {gf fk : Nat} {wv : Value} {R : Rn} {M : Ag} (h : LookAt w W L gr g cm c gf fk wv R M) {p : Nat} {f : Fa} (hf : R.fs[p]? = some f) (st fl : Int) : LookAt w ((W.setCell ⟨gf, p * 8 + 4, none⟩ (.int .i64 st)).setCell ⟨gf, p * 8 + 5, none⟩ (.int .i64 fl)) L gr g cm c gf fk wv { R with fs := R.fs.set p { f with b := { f.b with st := st, fl := fl } } } M := by
  have hp := (List.getElem?_eq_some_iff.1 hf).1
  obtain ⟨h1, s1⟩ := h.r.setFact hf 4 (.int .i64 st) (by omega) (f' := { f with b := { f.b with st := st } }) rfl
  have e1 : ({ R with fs := R.fs.set p { f with b := { f.b with st := st } } } : Rn).fs.length = R.fs.length := by simp
  obtain ⟨h2, s2⟩ := RunP.setFact (R := { R with fs := R.fs.set p { f with b := { f.b with st := st } } }) (by rw [e1]; exact h1) (show (R.fs.set p { f with b := { f.b with st := st } })[p]? = some { f with b := { f.b with st := st } } by rw [List.getElem?_set_self hp]) 5 (.int .i64 fl) (by omega) (f' := { f with b := { f.b with st := st, fl := fl } }) rfl
  have s := (step0 s1).trans (step0 s2)
  refine ⟨?_, h.a.keep s (fun q => not_ofP (by decide) q), h.s.trans s⟩
  simp only [List.set_set, List.length_set] at h2 ⊢
  exact h2

theorem below_drewN' (w : World) (n : Nat) : Below w.heap.size w (w.drewN n) := ⟨rfl, rfl, rfl, Nat.le_refl _, fun _ _ => rfl⟩
set_option maxRecDepth 100000 in
set_option maxHeartbeats 4000000 in
theorem klook_any (L : Labs) (gr g cm : Nat) (c : Cfg) (R : Rn) (M : Ag) (w : World) (h : RunAt w L gr g cm c R) (hA : AgentAt w L 1 g M) (hlen : M.bs.length = R.fs.length) (h120 : R.fs.length ≤ 120) (hid : ∀ (i : Nat) b, M.bs[i]? = some b → findId M.bs b.id = i) (hg : ∀ (i : Nat) (f : Fa) (b : Bat), R.fs[i]? = some f → M.bs[i]? = some b → Goes c.at' f.b b) :
    Calls Tryz.prog 50 #[.pointer (some ⟨gr, 0, none⟩)] w fun e w' => e = .returned (.tuple #[]) ∧ RunAt w' L gr g cm c { R with fs := looked R.fs M.bs R.fs.length } ∧ Step (ofP 0) L w L w' := by
  obtain ⟨fv, wv, h⟩ := h
  obtain ⟨fa, fk, rfl, _⟩ := h.fa.shape
  have HA := hide hA
  have H := hide h
  have Hlen := hide hlen
  have Hid' := hide hid
  have Hg := hide hg
  have Hz := hide (looked_zero hlen)
  generalize hn : R.fs.length = n at *
  have Hn := hide hn
  clear h hA hlen hid hg hn
  go_enter Tryz.func50, Tryz.ntmps50
  go_wp2_with fail
  go_loopw [2] (fun i wr => ∃ k : Nat, k ≤ n ∧ i = .int .i64 k ∧ RunP wr L gr g cm c (.slice fa n fk) wv { R with fs := looked R.fs M.bs k } ∧ AgentAt wr L 1 g M ∧ Step (ofP 0) L w L wr) (fun i _ => n - (intOf i).toNat)
  case atStart => exact ⟨0, Nat.zero_le _, rfl, by rw [Hz.out]; exact H.out, HA.out, Step.refl _ _ _⟩
  case round =>
    clear HA H Hz
    obtain ⟨k, hk, rfl, hR, hA, hS⟩ := hrel
    have c12 : wr.cell? ⟨gr, 12, none⟩ = some (.slice fa n fk) := hR.blk.1.cell 12
    have hll : (looked R.fs M.bs k).length = n := by rw [looked_len, Hn.out]
    by_cases hlt : k < n
    · have hltI : (k : Int) < (n : Int) := by omega
      obtain ⟨f, hf⟩ : ∃ f, R.fs[k]? = some f := ⟨_, List.getElem?_eq_getElem (by rw [Hn.out]; exact hlt)⟩
      obtain ⟨b, hb⟩ : ∃ b, M.bs[k]? = some b := ⟨_, List.getElem?_eq_getElem (by rw [Hlen.out]; exact hlt)⟩
      have hlk : (looked R.fs M.bs k)[k]? = some f := by rw [looked_at hf hb, if_neg (Nat.lt_irrefl _)]
      have hgo := Hg.out k f b hf hb
      have hfi := Hid'.out k b hb
      have hsuc := looked_succ (k := k) (by rw [Hlen.out, Hn.out]) hf hb
      obtain ⟨gf, rfl, _, _, _, _⟩ := (show RowAt wr L (some (0, .tk)) 50 8 (.slice fa n fk) n ((looked R.fs M.bs k).flatMap Fa.cells) by have := hR.fa; simp only [hll] at this; exact this).head (by omega)
      have hL : LookAt w wr L gr g cm c gf fk wv { R with fs := looked R.fs M.bs k } M := ⟨by simp only [hll]; exact hR, hA, hS⟩
      have HL := hide hL
      obtain ⟨hcf, hff⟩ := hL.facts hlk
      have e4 : wr.cell? ⟨gf, k * 8 + 4, none⟩ = some (.int .i64 f.b.st) := hcf 4 _ rfl
      have e5 : wr.cell? ⟨gf, k * 8 + 5, none⟩ = some (.int .i64 f.b.fl) := hcf 5 _ rfl
      have Hlk := hide hlk
      have Hfi := hide hfi
      have Hsuc := hide hsuc
      have Hgo := hide hgo
      have Hb := hide hb
      have hb120 : M.bs.length ≤ 120 := by rw [Hlen.out]; exact h120
      clear hR hA hS hf hb hlk hfi hsuc hL hcf hff hgo
      go_wp2_with fail
      generalize hW1 : World.alloc wr _ = W1
      have hb1 : Below wr.heap.size wr W1 := by rw [← hW1]; exact (Below.refl _ _).alloc (Nat.le_refl _) _
      have hX1 : Blk W1 wr.heap.size #[.int .i64 f.b.st, .int .i64 f.b.fl] 44 := by rw [← hW1]; exact Blk.new wr _ _
      have hL1 := HL.out.below hb1
      have HX1 := hide hX1
      have HL1 := hide hL1
      have k0 : W1.cell? ⟨gr, 0, none⟩ = some (.pointer (some ⟨g, 0, none⟩)) := hL1.r.blk.1.cell 0
      have k12 : W1.cell? ⟨gr, 12, none⟩ = some (.slice (some ⟨gf, 0, none⟩) n fk) := by have := hL1.r.blk.1.cell 12; simp only [hll] at this; exact this
      have i2 : W1.cell? ⟨gf, k * 8 + 2, none⟩ = some (encStr f.b.id) := (hL1.facts Hlk.out).1 2 _ rfl
      have hgS : wr.heap.size < W1.heap.size := hX1.lt
      have HSt : Hid (∀ W, Below W1.heap.size W1 W → Calls Tryz.prog 11 #[.pointer (some ⟨g, 0, none⟩), encStr f.b.id] W fun e w' => e = .returned (.tuple #[.agg #[.int .i64 b.st, .int .i64 b.fl], .nilIface]) ∧ Below W1.heap.size W1 w' ∧ Below W.heap.size W w') := fun W hW => by
        have he : f.b.id = b.id := Hgo.out.same.2.2.1.symm
        rw [he]
        refine (status_some L 1 g M b.id k b W (HL1.out.below hW).a hb120 Hfi.out Hb.out).mono ?_
        rintro e w' ⟨rfl, hb'⟩
        exact ⟨rfl, hW.trans (hb'.mono hW.size), hb'⟩
      have HKp : Hid (∀ W, Below W1.heap.size W1 W → W.cell? ⟨gr, 0, none⟩ = some (.pointer (some ⟨g, 0, none⟩)) ∧ W.cell? ⟨gr, 12, none⟩ = some (.slice (some ⟨gf, 0, none⟩) n fk) ∧ W.cell? ⟨gf, k * 8 + 2, none⟩ = some (encStr f.b.id)) := fun W hW => by
        have q := HL1.out.below hW
        refine ⟨q.r.blk.1.cell 0, ?_, (q.facts Hlk.out).1 2 _ rfl⟩
        have := q.r.blk.1.cell 12
        simp only [hll] at this
        exact this
      have HZ : Hid (∀ w2, Below ((W1.alloc (.cells #[.int .i64 0, .int .i64 0] 44)).drew).heap.size (W1.alloc (.cells #[.int .i64 0, .int .i64 0] 44)).drew w2 → w2.cell? ⟨W1.heap.size, 0, none⟩ = some (.int .i64 0) ∧ w2.cell? ⟨W1.heap.size, 1, none⟩ = some (.int .i64 0) ∧ w2.frozen? ⟨W1.heap.size, 0, none⟩ = false ∧ w2.frozen? ⟨W1.heap.size, 1, none⟩ = false ∧ Blk w2 W1.heap.size #[.int .i64 0, .int .i64 0] 44) := fun w2 hb => by
        have hB : Blk w2 W1.heap.size #[.int .i64 0, .int .i64 0] 44 := Blk.below (w := (W1.alloc (.cells #[.int .i64 0, .int .i64 0] 44)).drew) (Blk.new W1 _ _) hb (Blk.new W1 _ _).lt
        exact ⟨hB.cell 0, hB.cell 1, hB.frozen 0, hB.frozen 1, hB⟩
      clear hW1 hb1 hX1 hL1 HL e4 e5 c12
      generalize wr.heap.size = gS at *
      go_cut [4, 5] (fun s4 s5 wx => ∃ gN, s4 = .pointer (some ⟨gN, 0, none⟩) ∧ s5 = .nilIface ∧ Blk wx gN #[.int .i64 b.st, .int .i64 b.fl] 44 ∧ Below W1.heap.size W1 wx ∧ W1.heap.size ≤ gN)
      case first =>
        have n0 := World.new_ne W1 ⟨gr, 0, none⟩ k0
        have n12 := World.new_ne W1 ⟨gr, 12, none⟩ k12
        have ni := World.new_ne W1 ⟨gf, k * 8 + 2, none⟩ i2
        go_region_held3 (fun w' => w'.cell? ⟨gr, 0, none⟩ = some (.pointer (some ⟨g, 0, none⟩)) ∧ w'.cell? ⟨gr, 12, none⟩ = some (.slice (some ⟨gf, 0, none⟩) n fk) ∧ w'.cell? ⟨gf, k * 8 + 2, none⟩ = some (encStr f.b.id)) (go_keep)
          (first
            | (go_at_call 11; refine (HSt.out _ (by exact ((Below.refl W1.heap.size W1).alloc (Nat.le_refl _) (.cells #[.int .i64 0, .int .i64 0] 44)).drew)).mono ?_; rintro e w2 ⟨rfl, hb2, hb2'⟩; obtain ⟨x0, x1, xf0, xf1, xB⟩ := HZ.out w2 hb2'; have HXB := hide xB; clear xB hb2'; obtain ⟨z0, z12, zi⟩ := HKp.out w2 hb2; have v0 := World.new_ne w2 ⟨gr, 0, none⟩ z0; have v12 := World.new_ne w2 ⟨gr, 12, none⟩ z12; have vi := World.new_ne w2 ⟨gf, k * 8 + 2, none⟩ zi; have HB2 := hide hb2; clear hb2)
            | (go_at_call 11; refine (HSt.out _ (by exact (Below.refl _ _).drew)).mono ?_; rintro e w2 ⟨rfl, hb2, hb2'⟩; clear hb2'; obtain ⟨z0, z12, zi⟩ := HKp.out w2 hb2; have v0 := World.new_ne w2 ⟨gr, 0, none⟩ z0; have v12 := World.new_ne w2 ⟨gr, 12, none⟩ z12; have vi := World.new_ne w2 ⟨gf, k * 8 + 2, none⟩ zi; have HB2 := hide hb2; clear hb2))
        all_goals
          go_wp2_with fail
          go_meet
          first
            | (refine ⟨W1.heap.size, rfl, rfl, ?_, ?_, Nat.le_refl _⟩
               · exact (HXB.out.set 0 (.int .i64 b.st)).set 1 (.int .i64 b.fl)
               · first
                   | exact (HB2.out.setCell (Nat.le_refl _) _).setCell (Nat.le_refl _) _
                   | exact ((HB2.out.setCell (Nat.le_refl _) _).setCell (Nat.le_refl _) _).drew)
            | (refine ⟨w2.heap.size, rfl, rfl, Blk.new w2 _ _, ?_, HB2.out.size⟩
               first
                 | exact HB2.out.alloc HB2.out.size _
                 | exact (HB2.out.alloc HB2.out.size _).drew)
      case rest =>
        obtain ⟨gN, rfl, rfl, hN, hbN, hgN⟩ := hcut
        have hL2 := HL1.out.below hbN
        have hX2 := HX1.out.below hbN HX1.out.lt
        have x0 : wc.cell? ⟨gS, 0, none⟩ = some (.int .i64 f.b.st) := hX2.cell 0
        have x1 : wc.cell? ⟨gS, 1, none⟩ = some (.int .i64 f.b.fl) := hX2.cell 1
        have m0 : wc.cell? ⟨gN, 0, none⟩ = some (.int .i64 b.st) := hN.cell 0
        have m1 : wc.cell? ⟨gN, 1, none⟩ = some (.int .i64 b.fl) := hN.cell 1
        have k4 : wc.cell? ⟨gr, 4, none⟩ = some (.int .i64 c.at') := hL2.r.blk.1.cell 4
        have k18 : wc.cell? ⟨gr, 18, none⟩ = some (.bool true) := hL2.r.blk.1.cell 18
        have kf18 : wc.frozen? ⟨gr, 18, none⟩ = false := hL2.r.blk.1.frozen 18
        have hgrN : gr < W1.heap.size := HL1.out.r.blk.1.lt
        have hgfN : gf < W1.heap.size := World.block_lt_of_cell? W1 _ i2
        have hngr : ¬ (gN = gr) := by omega
        have hngr' : ¬ (gr = gN) := by omega
        have hngf : ¬ (gN = gf) := by omega
        have hngf' : ¬ (gf = gN) := by omega
        have hfr : ¬ (gf = gr) := fun e => by have q1 := hL2.r.fa.2 gf rfl; have q2 := hL2.r.blk.2; rw [e, q2] at q1; cases q1
        have hfr' : ¬ (gr = gf) := fun e => hfr e.symm
        have HFb : Hid ({ f with b := { f.b with st := b.st, fl := b.fl } } = ({ f with b := b } : Fa)) := by
          obtain ⟨a1, a2, a3, a4⟩ := Hgo.out.same
          show ({ b := ⟨f.b.dst, f.b.ten, f.b.id, f.b.body, b.st, b.fl⟩, af := f.af, sn := f.sn } : Fa) = { b := b, af := f.af, sn := f.sn }
          rw [← a1, ← a2, ← a3, ← a4]
        obtain ⟨hst, hov, hup, htop, hfull⟩ : (b.st = 1 ∨ b.st = 2 ∨ b.st = 3) ∧ (f.b.st ≠ 1 → b.st = f.b.st ∧ b.fl = f.b.fl) ∧ f.b.fl ≤ b.fl ∧ b.fl ≤ c.at' ∧ (b.fl = c.at' ↔ b.st = 3) := ⟨Hgo.out.st, Hgo.out.over, Hgo.out.up, Hgo.out.top, Hgo.out.full⟩
        have HL2 := hide hL2
        have HN2 := hide hN
        clear hL2 hX2 hN hbN HSt HKp HZ HX1 k0 k12 i2
        generalize c.at' = at1 at *
        generalize hs1 : b.st = s1 at *
        generalize hl1 : b.fl = l1 at *
        have q1 : ¬ (s1 < 1) := by omega
        have q2 : ¬ (3 < s1) := by omega
        have q3 : ¬ (l1 < f.b.fl) := by omega
        have q4 : ¬ (at1 < l1) := by omega
        have q3d : decide (l1 < f.b.fl) = false := decide_eq_false q3
        have q4d : decide (at1 < l1) = false := decide_eq_false q4
        have q5 : (l1 == at1) = (s1 == 3) := by
          rw [Bool.eq_iff_iff, beq_iff_eq, beq_iff_eq]
          exact hfull
        have Hst := hide hst
        have Hfull := hide hfull
        clear hst hfull hup htop hs1 hl1
        by_cases e0 : f.b.st = 1
        · have Hov := hide hov
          clear hov
          go_wp2_with fail
          go_quiet (fail)
          go_wp2_with fail
          generalize hV : World.setCell _ ⟨gr, 18, none⟩ _ = V
          have HL3 : Hid (LookAt w V L gr g cm c gf fk wv { R with fs := looked R.fs M.bs k } M) := by
            rw [← hV]
            first
              | exact (HL2.out.below (below_drewN' wc _)).kept
              | exact HL2.out.kept
          have hNV : Blk V gN #[.int .i64 s1, .int .i64 l1] 44 := by
            rw [← hV]
            exact HN2.out.other _ _ (by simp; omega)
          have k12 : V.cell? ⟨gr, 12, none⟩ = some (.slice (some ⟨gf, 0, none⟩) n fk) := by have := HL3.out.r.blk.1.cell 12; simp only [hll] at this; exact this
          have n0 : V.cell? ⟨gN, 0, none⟩ = some (.int .i64 s1) := hNV.cell 0
          have n1 : V.cell? ⟨gN, 1, none⟩ = some (.int .i64 l1) := hNV.cell 1
          have o4 : V.cell? ⟨gf, k * 8 + 4, none⟩ = some (.int .i64 f.b.st) := (HL3.out.facts Hlk.out).1 4 _ rfl
          have o5 : V.cell? ⟨gf, k * 8 + 5, none⟩ = some (.int .i64 f.b.fl) := (HL3.out.facts Hlk.out).1 5 _ rfl
          have of4 := (HL3.out.facts Hlk.out).2 (k * 8 + 4)
          have of5 := (HL3.out.facts Hlk.out).2 (k * 8 + 5)
          have HLay := hide (HL3.out.lay Hlk.out s1 l1)
          clear hV hNV
          go_region_held3 (fun w' => w'.cell? ⟨gr, 12, none⟩ = some (.slice (some ⟨gf, 0, none⟩) n fk) ∧ w'.cell? ⟨gN, 0, none⟩ = some (.int .i64 s1) ∧ w'.cell? ⟨gN, 1, none⟩ = some (.int .i64 l1)) (go_keep) (fail)
          all_goals
            go_wp2_with fail
            go_roundw
            case rel =>
              refine ⟨k + 1, by omega, by go_num, ?_⟩
              have q := HLay.out
              rw [HFb.out, Hsuc.out] at q
              have hl2 : (looked R.fs M.bs (k + 1)).length = n := by rw [looked_len, Hn.out]
              have qr := q.r
              simp only [hl2] at qr
              first
                | exact ⟨qr.keep (Step.drew (p := fun _ => False) L _) (fun _ h => h), q.a.keep (Step.drew (p := fun _ => False) L _) (fun _ h => h), q.s.trans (Step.drew L _)⟩
                | exact ⟨qr, q.a, q.s⟩
            case measure => simp [intOf]; omega
        · obtain ⟨o1, o2⟩ := hov e0
          rw [← o1] at x0 e0
          rw [← o2] at x1 q3 q3d
          have e0b : (s1 != 1) = true := by simp [e0]
          clear hov o1 o2
          go_wp2_with fail
          go_quiet (fail)
          go_wp2_with fail
          generalize hV : World.setCell _ ⟨gr, 18, none⟩ _ = V
          have HL3 : Hid (LookAt w V L gr g cm c gf fk wv { R with fs := looked R.fs M.bs k } M) := by
            rw [← hV]
            first
              | exact (HL2.out.below (below_drewN' wc _)).kept
              | exact HL2.out.kept
          have hNV : Blk V gN #[.int .i64 s1, .int .i64 l1] 44 := by
            rw [← hV]
            exact HN2.out.other _ _ (by simp; omega)
          have k12 : V.cell? ⟨gr, 12, none⟩ = some (.slice (some ⟨gf, 0, none⟩) n fk) := by have := HL3.out.r.blk.1.cell 12; simp only [hll] at this; exact this
          have n0 : V.cell? ⟨gN, 0, none⟩ = some (.int .i64 s1) := hNV.cell 0
          have n1 : V.cell? ⟨gN, 1, none⟩ = some (.int .i64 l1) := hNV.cell 1
          have o4 : V.cell? ⟨gf, k * 8 + 4, none⟩ = some (.int .i64 f.b.st) := (HL3.out.facts Hlk.out).1 4 _ rfl
          have o5 : V.cell? ⟨gf, k * 8 + 5, none⟩ = some (.int .i64 f.b.fl) := (HL3.out.facts Hlk.out).1 5 _ rfl
          have of4 := (HL3.out.facts Hlk.out).2 (k * 8 + 4)
          have of5 := (HL3.out.facts Hlk.out).2 (k * 8 + 5)
          have HLay := hide (HL3.out.lay Hlk.out s1 l1)
          clear hV hNV
          go_region_held3 (fun w' => w'.cell? ⟨gr, 12, none⟩ = some (.slice (some ⟨gf, 0, none⟩) n fk) ∧ w'.cell? ⟨gN, 0, none⟩ = some (.int .i64 s1) ∧ w'.cell? ⟨gN, 1, none⟩ = some (.int .i64 l1)) (go_keep) (fail)
          all_goals
            go_wp2_with fail
            go_roundw
            case rel =>
              refine ⟨k + 1, by omega, by go_num, ?_⟩
              have q := HLay.out
              rw [HFb.out, Hsuc.out] at q
              have hl2 : (looked R.fs M.bs (k + 1)).length = n := by rw [looked_len, Hn.out]
              have qr := q.r
              simp only [hl2] at qr
              first
                | exact ⟨qr.keep (Step.drew (p := fun _ => False) L _) (fun _ h => h), q.a.keep (Step.drew (p := fun _ => False) L _) (fun _ h => h), q.s.trans (Step.drew L _)⟩
                | exact ⟨qr, q.a, q.s⟩
            case measure => simp [intOf]; omega
    · obtain rfl : n = k := by omega
      have hltI : ¬ ((n : Int) < (n : Int)) := by omega
      have HR := hide hR
      have HS := hide hS
      clear hR hA hS
      go_wp2_with fail
      first | go_end0 | refine bodyPost_ret (results_none rfl _ _ _) rfl ?_
      exact ⟨rfl, ⟨_, _, HR.out⟩, HS.out⟩
end Go.Proofs.YtojpjaifhjigfabGreatDoor
