/- Steps of the proof (several texts in one): OpenLog, LogKept2, Keep, Same, Config. -/
import Derived.Test.YtojpjaifhjigfabGreatDoorMTwo16
import Derived.Test.YtojpjaifhjigfabGreatDoorMTwo11
import Derived.Test.YtojpjaifhjigfabGreatDoorMTwo17
import Derived.Test.YtojpjaifhjigfabGreatDoorMTwo14
import Derived.Test.YtojpjaifhjigfabGreatDoorMTwo10
import Derived.Deep.RegionHeld3

/- Open of a log. -/
namespace Go.Proofs.YtojpjaifhjigfabGreatDoor
open Go.RowKit Go.Maps

/-- A new agent, ahead of replay, with its labels. -/
theorem agentAt_new0 {w w1 : World} {c : Cfg} {D : DataW Unit} {g bq bm cn go : Nat} {nv : Value} {ns : List (List UInt8)} {fs : List (Value × Value)} (L : Labs) (who : Nat) (h : NewAg w w1 c D g bq bm cn go nv ns fs) (hsz : Maps.size D = ns.length) : AgentAt w1 (newLabs L w.heap.size w1 who bq fs) who g (Ag.new c D ns) := by
  have hmap : ∀ (b : Nat) (es : Array MapEntry) (cl : Nat), w1.heap[b]? = some (.map es cl) → w1.heap[b]? = some (.map es cl) := fun b es cl hb => hb
  have hblk : ∀ b cs t, Blk w1 b cs t → t ≠ 65 → Blk w1 b cs t := fun b cs t hb _ => hb
  have hw1 : w.heap.size ≤ w1.heap.size := h.bw.size
  have hK := h.blk
  refine ⟨bq, bm, cn, .slice none 0 0, .slice none 0 0, nv, .slice none 0 0, .slice (some ⟨go, 0, none⟩) c.d.toNat c.d.toNat, ?_⟩
  refine { blk := ⟨hK, by rw [newLabs_cells h.bg hK]; rfl⟩, tk := RowAt.nil _ _ _ _ _, qs := queuesAt_empty (hmap _ _ _ h.qm) (by rw [newLabs_map h.bbq (hmap _ _ _ h.qm)]; simp), dd := RowAt.nil _ _ _ _ _, nm := ?_, rt := ?_, ol := ?_, cm := ?_ }
  · refine ⟨⟨h.nm.1, ?_⟩, fun q hq => ?_⟩
    · rcases h.nm.2 with q | ⟨q, cap, cur, q1, q2, q3, q4⟩
      · exact Or.inl q
      · exact Or.inr ⟨q, cap, cur, q1, Nat.zero_le _, hblk _ _ _ q3 (by decide), q4⟩
    · rcases h.nm.2 with ⟨q1, _⟩ | ⟨q', cap, cur, q1, q2, q3, q4⟩
      · rw [q1] at hq; cases hq
      · rw [q1] at hq
        obtain rfl : q' = q := by simpa [Value.ownBlock] using hq
        rw [newLabs_cells q2 (hblk _ _ _ q3 (by decide))]
        rfl
  · exact RowAt.nil _ _ _ _ _
  · have hfl := h.fl
    refine ⟨fs, by simp [Ag.new, hfl], ?_, fun i o f hio hif => ?_⟩
    · have e : (Ag.new c D ns).os.length = c.d.toNat := by simp [Ag.new]
      have e2 : (((Ag.new c D ns).os.zip fs).flatMap fun p => p.1.cells p.2.1 p.2.2) = fs.flatMap fun f => (Out.zero (Maps.size D)).cells f.1 f.2 := by
        rw [← zip_flat, hfl, hsz]
        rfl
      rw [e, e2]
      refine ⟨⟨h.ol.1, ?_⟩, fun q hq => ?_⟩
      · rcases h.ol.2 with ⟨q, _⟩ | ⟨q, cap, cur, q1, q2, q3, q4⟩
        · cases q
        · exact Or.inr ⟨q, cap, cur, q1, Nat.zero_le _, hblk _ _ _ q3 (by decide), q4⟩
      · rcases h.ol.2 with ⟨q, _⟩ | ⟨q', cap, cur, q1, q2, q3, q4⟩
        · cases q
        · rw [q1] at hq
          obtain rfl : q' = q := by simpa [Value.ownBlock] using hq
          rw [newLabs_cells q2 (hblk _ _ _ q3 (by decide))]
          rfl
    · have hoz : o = Out.zero (Maps.size D) := by
        have := List.mem_of_getElem? hio
        simp only [Ag.new, List.mem_replicate] at this
        rw [this.2, hsz]
        rfl
      subst hoz
      obtain ⟨g1, g2, hf, b1, b2, k1, k2⟩ := h.md i f hif
      have hgo := h.bo
      refine ⟨g1, by rw [hf], ⟨hblk _ _ _ k1 (by decide), by rw [newLabs_cells (by omega) (hblk _ _ _ k1 (by decide))]; rfl⟩, ⟨?_, fun q hq => ?_⟩⟩
      · rw [hf]
        have e : (Out.zero (Maps.size D)).cr.length = Maps.size D := by simp [Out.zero]
        have e2 : intsI (Out.zero (Maps.size D)).cr = List.replicate (Maps.size D) (.int .i64 0) := by simp [Out.zero, intsI]
        rw [e, e2]
        refine ⟨k2.1, ?_⟩
        rcases k2.2 with ⟨q, _⟩ | ⟨q, cap, cur, q1, q2, q3, q4⟩
        · cases q
        · exact Or.inr ⟨q, cap, cur, q1, Nat.zero_le _, hblk _ _ _ q3 (by decide), q4⟩
      · have hfo : f.2.ownBlock = some g2 := by rw [hf]; rfl
        rw [hfo] at hq
        obtain rfl : g2 = q := by simpa using hq
        rcases k2.2 with ⟨q, _⟩ | ⟨q, cap, cur, q1, q2, q3, q4⟩
        · cases q
        · obtain rfl : g2 = q := by simpa using (by simpa using q1 : g2 = q ∧ _).1
          rw [newLabs_cells (by omega) (hblk _ _ _ q3 (by decide)), apart_find h.ap hif hfo]
          rfl
  · refine ⟨?_, ?_⟩
    · obtain ⟨es, cl, hb, r⟩ := h.cm
      exact ⟨es, cl, hmap _ _ _ hb, r⟩
    · obtain ⟨es, cl, hb, r⟩ := h.cm
      rw [newLabs_map h.bbm (hmap _ _ _ hb), if_neg (fun e => h.ne e.symm)]

theorem errs_none {w : World} {A : Nat → Addr} (hS : Sents.Holds w 197 gl 11 A) : ErrsAt w (fun _ => none) A := ⟨hS, fun _ _ => rfl, fun _ _ => rfl⟩
theorem rinv_new {w : World} {b n : Nat} {c : Cfg} {D : DataW Unit} {ns : List (List UInt8)} (h : OM w b n D) (hg : GoodC c D) (hp : ns.Perm (strKeys D)) : RInv (Ag.new c D ns) := by
  have hi := inv_new h hg hp
  exact ⟨hi.good, hi.sl, hi.hs, hi.b120, hi.each, hi.dead, hi.ddn⟩

/-- What Open of a log brings. -/
def OpenedLog (who : Nat) (A : Nat → Addr) (c : Cfg) (D : DataW Unit) (log : List UInt8) (w : World) (e : Ending) (w' : World) : Prop :=
  ∃ ns res, ns.Perm (strKeys D) ∧ ns.Pairwise (fun x y => x ≤ y) ∧ Replays (Ag.new c D ns) 0 log res ∧ Below w.heap.size w w' ∧ (res = none → e = .returned (.tuple #[.pointer none, ev A 1])) ∧
    (∀ M' n, res = some (M', n) → ∃ g L', e = .returned (.tuple #[.pointer (some ⟨g, 0, none⟩), .nilIface]) ∧ AgentAt w' L' who g (M'.reborn (log.take n)) ∧ w.heap.size ≤ g ∧ (∀ k, k < w.heap.size → L' k = none) ∧ ∀ k, w'.heap.size ≤ k → L' k = none)

set_option maxRecDepth 100000 in
set_option maxHeartbeats 2000000 in
theorem open_log (A : Nat → Addr) (who : Nat) (c : Cfg) (m : Option Nat) (D : DataW Unit) (log : List UInt8) (w : World) (hS : Sents.Holds w 197 gl 11 A) (h : MapAt w m D) (hg : GoodC c D) (hlog : log.length ≤ 140737488355328) :
    Calls Tryz.prog 10 #[c.val m, encStr log] w fun e w' => OpenedLog who A c D log w e w' := by
  have H := hide h
  have hd := Cfg.num_d hg.1
  obtain ⟨b, n, rfl, hown⟩ : ∃ b n, m = some b ∧ OM w b n D := by
    rcases h with ⟨_, rfl⟩ | ⟨b, n, h1, h2, _⟩
    · exact absurd hg.2.1.1.1 (by simp [Maps.size])
    · exact ⟨b, n, h1, h2⟩
  have hsz : Maps.size D ≤ 8 := hg.2.1.1.2
  have HO := hide hown
  have HG := hide hg
  have HS := hide hS
  clear h hown hg hS
  go_enter Tryz.func10, Tryz.ntmps10
  go_wp2_with fail
  refine (isConfig_any c (some b) D _ (H.out.alloc _)).mono ?_
  rintro e w1 ⟨r, rfl, hr, hb1⟩
  obtain rfl : r = true := hr.2 HG.out
  clear hr
  have hB1 : Below w.heap.size w w1 := ((Below.refl _ _).alloc (Nat.le_refl _) _).trans (hb1.mono (by simp))
  have Hb1 := hide hb1
  have HB1 := hide hB1
  obtain ⟨hc1, _⟩ := bcell hb1
  simp only [World.size_alloc] at hc1
  clear hb1 hB1
  go_wp2_with fail
  refine (newAgent_any c b n D _ hd.1 hd.2 (om_below (HO.out.alloc _) Hb1.out (HO.out.alloc _).lt) hsz).mono ?_
  rintro e w2 ⟨g, bq, bm, cn, go, nv, ns, fs, rfl, hN⟩
  have hA2 := agentAt_new0 (fun _ => none) who hN (by rw [hN.pm.length_eq, size_strKeys HO.out])
  have hB2 : Below w.heap.size w w2 := HB1.out.trans (hN.bw.mono HB1.out.size)
  have hL2 : ∀ k, k < w1.heap.size → newLabs (fun _ => none) w1.heap.size w2 who bq fs k = none := fun k hk => newLabs_old _ _ _ _ _ _ k hk
  have hz1 : w.heap.size ≤ w1.heap.size := HB1.out.size
  have hgw : w.heap.size ≤ g := Nat.le_trans hz1 hN.bg
  have hE2 : ErrsAt w2 (newLabs (fun _ => none) w1.heap.size w2 who bq fs) A := by
    have hS2 := HS.out.below hB2
    refine ⟨hS2, fun i hi => hL2 _ ?_, fun i hi => hL2 _ ?_⟩
    · exact Nat.lt_of_lt_of_le (World.block_lt_of_cell? w _ (HS.out.cell i hi)) hz1
    · obtain ⟨c', t', hc'⟩ := HS.out.block i hi
      exact Nat.lt_of_lt_of_le (Array.getElem?_eq_some_iff.1 hc').1 hz1
  generalize newLabs (fun _ => none) w1.heap.size w2 who bq fs = L2 at *
  have HRp := hide (replay_any A L2 who g (Ag.new c D ns) log w2 hE2 hA2 (rinv_new HO.out HG.out hN.pm) hlog)
  have Hpm := hide hN.pm
  have Hso := hide hN.so
  have HB2 := hide hB2
  have HL2 := hide hL2
  unfold Replayed at HRp
  clear hN hc1 hA2 hB2 hL2 hE2
  go_wp2_with fail
  refine HRp.out.mono ?_
  rintro e w3 ⟨res, hres, h1, h2⟩
  have hbelow : ∀ M', Turned w2 L2 who g M' w3 → Below w.heap.size w w3 := fun M' ⟨L3, _, q2⟩ => HB2.out.trans (q2.below HB2.out.size (fun k hk => by rw [HL2.out k (Nat.lt_of_lt_of_le hk hz1)]; exact fun ⟨q, e⟩ => (by cases e)))
  cases hr : res with
  | none =>
    subst hr
    obtain ⟨rfl, M3, hT⟩ := h1 rfl
    have hB3 := hbelow M3 hT
    have c1 := (HS.out.below hB3).cell 1 (by decide)
    simp only [gl, List.getD_cons_zero, List.getD_cons_succ] at c1
    have HB3 := hide hB3
    have Hres := hide hres
    clear h1 h2 hbelow hT hB3 hres
    go_wp2_with fail
    go_quiet (fail)
    go_wp2_with fail
    go_ret2
    exact ⟨ns, none, Hpm.out, Hso.out, Hres.out, below_drewN HB3.out _, (fun _ => rfl), (fun M' n' e => (by cases e))⟩
  | some x =>
    subst hr
    obtain ⟨M3, n3⟩ := x
    obtain ⟨rfl, hT⟩ := h2 M3 n3 rfl
    have HB3 := hide (hbelow _ hT)
    have HT := hide hT
    have Hres := hide hres
    clear h1 h2 hbelow hT hres
    go_wp2_with fail
    go_ret2
    refine ⟨ns, some (M3, n3), Hpm.out, Hso.out, Hres.out, HB3.out, (fun e => (by cases e)), fun M' n' e => ?_⟩
    cases e
    obtain ⟨L3, q1, q2⟩ := HT.out
    refine ⟨g, clip L3 w3.heap.size, rfl, q1.keep (Step.clipped (p := fun _ => False) L3 w3) (fun _ h => h), hgw, fun k hk => ?_, fun k hk => clip_none L3 hk⟩
    have h2z : k < w2.heap.size := Nat.lt_of_lt_of_le hk HB2.out.size
    rw [clip, if_pos (Nat.lt_of_lt_of_le h2z q2.size), q2.lab k h2z]
    exact HL2.out k (Nat.lt_of_lt_of_le hk hz1)
end Go.Proofs.YtojpjaifhjigfabGreatDoor

/- What Submit and a crash leave of it. -/
namespace Go.Proofs.YtojpjaifhjigfabGreatDoor
open Go.RowKit Go.Maps

theorem recBytes_rec (b : Bat) (ht : b.ten.length ≤ 16) (hid : b.id.length ≤ 16) (hbo : b.body.length ≤ 63) : recBytes b = recB 43 [tookEv b] := by
  have hl := evBytes_le b ht hid hbo
  have e : [tookEv b].flatMap Ev.bytes = evBytes b := by simp [tookEv, Ev.bytes]
  unfold recB recBytes
  rw [if_neg (by simp), e, Nat.div_eq_of_lt (show (evBytes b).length < 256 by omega), Nat.mod_eq_of_lt (show (evBytes b).length < 256 by omega)]
  rfl
theorem waits_snoc_le (bs : List Bat) (b : Bat) (h0 : 0 ≤ b.dst) (h4 : b.dst < 4) (x : List UInt8) : waits (bs ++ [b]) x ≤ waits bs x + if b.ten = x then 1 else 0 := by
  rw [waits_snoc bs b h0 h4 x]
  by_cases hx : b.ten = x
  · rw [if_pos hx]
    split <;> omega
  · simp [hx]
theorem LInv.submitted {M : Ag} {t : Nat} (h : LInv M) (hi : Inv M t) (b : Bat) : LInv (M.submitted b) := by
  unfold Ag.submitted
  split
  · rename_i hr
    obtain ⟨r1, r2, r3, r4, r5, r6, r7⟩ := refusal_zero hr
    have hten := (hi.sl _ ((hi.hs b.ten).2 r2)).2
    have hd := (Cfg.ok hi.good.1).d
    simp [destB] at r1
    simp [inB] at r3
    have htell : (tookEv b).Tell := Or.inl ⟨rfl, rfl, rfl, by show 0 ≤ b.dst; omega, by show b.dst < 4; omega, hten, by show b.id.length ≤ 16; omega, r4⟩
    have hmis : M.misfit b = 0 := by
      unfold Ag.refusal at hr
      by_cases h1 : M.misfit b = 0
      · exact h1
      · rw [if_pos h1] at hr; exact hr
    have hp : M.played (tookEv b) = { M with bs := M.bs ++ [b.fresh] } := by
      unfold Ag.played
      rw [if_pos (show (tookEv b).kind = 0 from rfl)]
      rfl
    have h1 : LInv (M.recorded [tookEv b]) := by
      refine h.recorded (fun e he => by rw [List.mem_singleton.1 he]; exact htell) (by have := htell.le; simp; omega) ⟨?_, trivial⟩ (fun x hx => ?_)
      · unfold Ag.canBe
        rw [if_pos (show (tookEv b).kind = 0 from rfl)]
        show (M.misfit b == 0) = true
        rw [hmis]
        rfl
      · rw [List.foldl_cons, List.foldl_nil, hp]
        have h2 := waits_snoc_le M.bs b.fresh (show 0 ≤ b.dst by omega) (show b.dst < 4 by omega) x
        have h3 := h.quota x hx
        show ((waits (M.bs ++ [b.fresh]) x : Nat) : Int) ≤ M.c.q
        by_cases hx2 : b.fresh.ten = x
        · have : b.ten = x := hx2
          rw [if_pos hx2] at h2
          rw [this] at r7
          omega
        · rw [if_neg hx2] at h2
          omega
    refine h1.same ?_ ?_ ?_ ?_ ?_ ?_
    all_goals (unfold Ag.recorded; rw [List.foldl_cons, List.foldl_nil, hp])
    · rfl
    · rfl
    · rfl
    · rfl
    · rfl
    · show M.log ++ recBytes b = M.log ++ recB 43 [tookEv b]
      rw [recBytes_rec b hten (by omega) r4]
  · exact h

/-- The agent behind a crash. -/
def Ag.crashed (M : Ag) : Ag := M.core.reborn M.log
theorem LInv.crashed {M : Ag} (h : LInv M) : LInv M.crashed := h.same rfl rfl rfl rfl rfl rfl
theorem Inv.crashed {M : Ag} {t : Nat} (h : Inv M t) : Inv M.crashed t := by
  have hc := Cfg.ok h.good.1
  have hO : ∀ (d : Nat) (o : Out), M.crashed.os[d]? = some o → o = { res := 0, fl := 0, trip := false, unt := 0, turn := 0, cr := List.replicate M.ns.length 0, sends := 0, way := -1, began := 0 } := fun d o ho => by
    have := List.mem_of_getElem? ho
    exact (List.mem_replicate.1 this).2
  have hn1 := h.n1
  refine ⟨h.good, h.pm, h.nd, h.nl, h.n1, h.sl, h.hs, h.q, h.b120, h.each, h.dead, h.ddn, ?_, fun r hr => ?_, ?_, fun d o ho => ?_, fun d o ho => ?_, Int.le_refl _, ?_, h.lg⟩
  · show (List.replicate M.bs.length _).length = M.bs.length
    simp
  · have hr2 : r ∈ List.replicate M.bs.length (⟨0, M.c.ba⟩ : Ret) := hr
    rw [(List.mem_replicate.1 hr2).2]
    exact ⟨Int.le_refl _, hc.ba.2⟩
  · show ((List.replicate M.c.d.toNat _).length : Int) = M.c.d
    have := hc.d
    simp
    omega
  · rw [hO d o ho]
    have := hc.wi
    refine ⟨Int.le_refl _, by show (0 : Int) < M.c.wi; omega, Int.le_refl _, Int.le_refl _, ⟨by show 0 < M.ns.length; omega, by simp; rfl, fun i hi => ?_, fun i hi hne => ?_, ?_⟩, Int.le_refl _, by show (0 : Int) ≤ (t : Int); omega, Int.le_refl _, Int.le_refl _⟩
    all_goals (simp [List.getD_eq_getElem?_getD, List.getElem?_replicate]; try (split <;> simp))
  · rw [hO d o ho]
    exact Or.inl rfl
  · show (0 : Int) ≤ 60000 * (t : Int)
    omega
end Go.Proofs.YtojpjaifhjigfabGreatDoor

/- conduitkeep: pick, raw, names, id. -/
namespace Go.Proofs.YtojpjaifhjigfabGreatDoor
open Go.RowKit Go.Maps

/-- Which of n things a number speaks of. -/
def pickN (z : Int) (n : Nat) : Nat := (if z < 0 then (-(z + 1)).toNat else z.toNat) % n
theorem pickN_lt (z : Int) {n : Nat} (h : 0 < n) : pickN z n < n := Nat.mod_lt _ h
theorem pickK_neg {z : Int} (n : Nat) (h : z < 0) : (-(z + 1)) % (n : Int) = (pickN z n : Int) := by
  have e : -(z + 1) = ((-(z + 1)).toNat : Int) := by omega
  unfold pickN
  rw [if_pos h]
  generalize (-(z + 1)).toNat = k at *
  rw [e]
  rfl
theorem pickK_negt {z : Int} (n : Nat) (h : z < 0) : -(z + 1).tmod n = (pickN z n : Int) := by
  have e : z + 1 = -((-(z + 1)).toNat : Int) := by omega
  unfold pickN
  rw [if_pos h]
  generalize (-(z + 1)).toNat = k at *
  rw [e, Int.neg_tmod, Int.neg_neg]
  rfl
theorem pickK_pos {z : Int} (n : Nat) (h : 0 ≤ z) : z % n = (pickN z n : Int) := by
  unfold pickN
  rw [if_neg (by omega)]
  obtain ⟨k, rfl⟩ := Int.eq_ofNat_of_zero_le h
  simp

set_option maxHeartbeats 1000000 in
theorem kpick_any (z : Int) (n : Nat) (w : World) (h0 : -9223372036854775808 ≤ z) (h1 : z ≤ 9223372036854775807) (hn : 0 < n) : Calls Tryz.prog 16 #[.int .i64 z, .int .i64 n] w fun e w' => e = .returned (.int .i64 (pickN z n)) ∧ w' = w := by
  have hn0 : ¬ ((n : Int) = 0) := by omega
  by_cases hz : z < 0
  · go_enter Tryz.func16, Tryz.ntmps16
    go_wp2
    go_ret
    first
      | exact ⟨ret_int (pickK_neg n hz), rfl⟩
      | exact ⟨ret_int (pickK_negt n hz), rfl⟩
  · go_enter Tryz.func16, Tryz.ntmps16
    go_wp2
    go_ret
    exact ⟨ret_int (pickK_pos n (by omega)), rfl⟩

/-- Numbers that came in. -/
def IntsAt (w : World) (a : Option Addr) (zs : List Int) : Prop := zs = [] ∨ ∃ b off, a = some ⟨b, off, none⟩ ∧ b < w.heap.size ∧ ∀ (k : Nat) (z : Int), zs[k]? = some z → w.cell? ⟨b, off + k, none⟩ = some (.int .i64 z)
theorem IntsAt.below {w w' : World} {a : Option Addr} {zs : List Int} (h : IntsAt w a zs) (hb : Below w.heap.size w w') : IntsAt w' a zs := by
  rcases h with h | ⟨b, off, e, h1, h2⟩
  · exact Or.inl h
  · exact Or.inr ⟨b, off, e, Nat.lt_of_lt_of_le h1 hb.size, fun k z hz => (hb.cell (p := ⟨b, off + k, none⟩) h1).trans (h2 k z hz)⟩
def InR (z : Int) : Prop := -9223372036854775808 ≤ z ∧ z ≤ 9223372036854775807
theorem rawN_in {zs : List Int} (h : ∀ z ∈ zs, InR z) (i : Nat) : InR (zs.getD i 0) := by
  rw [List.getD_eq_getElem?_getD]
  cases e : zs[i]? with
  | none => exact ⟨by simp, by simp⟩
  | some z => exact h z (List.mem_of_getElem? e)

set_option maxHeartbeats 1000000 in
theorem kraw_any (a : Option Addr) (cap : Nat) (zs : List Int) (i : Nat) (w : World) (h : IntsAt w a zs) : Calls Tryz.prog 17 #[.slice a zs.length cap, .int .i64 i] w fun e w' => e = .returned (.int .i64 (zs.getD i 0)) ∧ w' = w := by
  by_cases hi : i < zs.length
  · obtain ⟨z, hz⟩ : ∃ z, zs[i]? = some z := ⟨_, List.getElem?_eq_getElem hi⟩
    have e : zs.getD i 0 = z := by rw [List.getD_eq_getElem?_getD, hz]; rfl
    rcases h with h | ⟨b, off, rfl, _, h2⟩
    · rw [h] at hi; cases hi
    have c := h2 i z hz
    have hiI : (i : Int) < (zs.length : Int) := by omega
    rw [e]
    generalize zs.length = n at *
    clear h2 e hz
    go_enter Tryz.func17, Tryz.ntmps17
    go_wp2
    go_ret
    exact ⟨rfl, rfl⟩
  · have e : zs.getD i 0 = 0 := by rw [List.getD_eq_getElem?_getD, List.getElem?_eq_none (by omega)]; rfl
    have hiI : ¬ ((i : Int) < (zs.length : Int)) := by omega
    rw [e]
    generalize zs.length = n at *
    clear h e
    go_enter Tryz.func17, Tryz.ntmps17
    go_wp2
    go_ret
    exact ⟨rfl, rfl⟩

/-- The four tenants' names. -/
def kn : List (List UInt8) := [[97], [98], [99], [100]]
set_option maxHeartbeats 1000000 in
theorem knames_any (w : World) : Calls Tryz.prog 18 #[] w fun e w' => e = .returned (.slice (some ⟨w.heap.size, 0, none⟩) 4 4) ∧ w' = w.alloc (.cells #[encStr [97], encStr [98], encStr [99], encStr [100]] 9) := by
  go_enter Tryz.func18, Tryz.ntmps18
  go_wp2
  go_ret
  exact ⟨rfl, rfl⟩

/-- The ids that are made up. -/
def kid (n : Nat) : List UInt8 := [105, UInt8.ofNat (65 + n / 26 % 26), UInt8.ofNat (65 + n % 26)]
theorem u8_inj {a b : Nat} (ha : a < 256) (hb : b < 256) (h : UInt8.ofNat a = UInt8.ofNat b) : a = b := by
  have := congrArg UInt8.toNat h
  simpa [UInt8.toNat_ofNat, Nat.mod_eq_of_lt ha, Nat.mod_eq_of_lt hb] using this
theorem kid_inj {n m : Nat} (hn : n < 676) (hm : m < 676) (h : kid n = kid m) : n = m := by
  simp only [kid, List.cons.injEq, and_true, true_and] at h
  have h1 := u8_inj (by omega) (by omega) h.1
  have h2 := u8_inj (by omega) (by omega) h.2
  omega

theorem two_row (w : World) (x y : Value) : (w.alloc (.cells #[x, y] 5)).ownsRow 0 5 1 (.slice (some ⟨w.heap.size, 0, none⟩) 2 2) 2 [x, y] :=
  ⟨rfl, Or.inr ⟨_, _, _, rfl, Nat.zero_le _, obj_new rfl _, Nat.le_refl _, by unfold maxLen; omega, rfl, rfl⟩⟩
theorem convert_two (w : World) (x y : UInt8) : (convert 113 9 (.slice (some ⟨w.heap.size, 0, none⟩) 2 2)).run Tryz.prog (w.alloc (.cells #[.int .u8 x.toNat, .int .u8 y.toNat] 5)) = .ok (encStr [x, y]) (w.alloc (.cells #[.int .u8 x.toNat, .int .u8 y.toNat] 5)) := by
  refine run_convert_bytes_back _ 113 9 5 ⟨w.heap.size, 0, none⟩ 2 [x, y] Tryz.underlying113 Tryz.underlying5 Tryz.underlying9 (fun j hj => ?_)
  exact (two_row w _ _).cells (by simp [Value.ownBlock]) j _ (by match j, hj with | 0, _ => rfl | 1, _ => rfl)
set_option maxRecDepth 100000 in
set_option maxHeartbeats 1000000 in
theorem kid_any (n : Nat) (w : World) (h : n < 1000) : Calls Tryz.prog 45 #[.int .i64 n] w fun e w' => e = .returned (encStr (kid n)) ∧ Below w.heap.size w w' := by
  have e1 : (65 + (n : Int) / 26 % 26) = ((UInt8.ofNat (65 + n / 26 % 26)).toNat : Int) := by
    rw [UInt8.toNat_ofNat']
    omega
  have e2 : (65 + (n : Int) % 26) = ((UInt8.ofNat (65 + n % 26)).toNat : Int) := by
    rw [UInt8.toNat_ofNat']
    omega
  have hcv : (convert 113 9 (.slice (some ⟨w.heap.size, 0, none⟩) 2 2)).run Tryz.prog (w.alloc (.cells #[.int .u8 (65 + (n : Int) / 26 % 26), .int .u8 (65 + (n : Int) % 26)] 5)) = .ok (encStr [UInt8.ofNat (65 + n / 26 % 26), UInt8.ofNat (65 + n % 26)]) (w.alloc (.cells #[.int .u8 (65 + (n : Int) / 26 % 26), .int .u8 (65 + (n : Int) % 26)] 5)) := by
    have := convert_two w (UInt8.ofNat (65 + n / 26 % 26)) (UInt8.ofNat (65 + n % 26))
    rw [← e1, ← e2] at this
    exact this
  clear e1 e2
  unfold kid
  generalize UInt8.ofNat (65 + n / 26 % 26) = x at *
  generalize UInt8.ofNat (65 + n % 26) = y at *
  go_enter Tryz.func45, Tryz.ntmps45
  go_wp2_with fail
  go_ret
  refine ⟨?_, (Below.refl _ _).alloc (Nat.le_refl _) _⟩
  have e : (ByteArray.mk #[105]) ++ (ByteArray.mk #[x, y]) = ByteArray.mk #[105, x, y] := by
    apply ByteArray.ext
    rw [ByteArray.data_append]
    simp
  show Ending.returned (Value.string (ByteArray.mk #[105] ++ ByteArray.mk #[x, y])) = _
  rw [e]
end Go.Proofs.YtojpjaifhjigfabGreatDoor

/- sameMaps: of two maps that read alike the answer is true. -/
namespace Go.Proofs.YtojpjaifhjigfabGreatDoor
open Go.RowKit Go.Maps

end Go.Proofs.YtojpjaifhjigfabGreatDoor

/- conduitlaw.config and example: a configuration with its tenants. -/
namespace Go.Proofs.YtojpjaifhjigfabGreatDoor
open Go.RowKit Go.Maps
attribute [local go_sem] run_store_float

theorem infoConfig : (Tryz.prog.info? 30).map (·.size) = some 11 := by kernel_rfl

theorem splice_all (cs : Array Value) (vs : Array Value) (h : cs.size = vs.size) : splice cs 0 vs.toList = vs := by
  have key : ∀ (l : List Value) (cs : Array Value) (o : Nat), cs.size = o + l.length → (splice cs o l).toList = cs.toList.take o ++ l := by
    intro l
    induction l with
    | nil => intro cs o h; simp only [splice, List.append_nil]; rw [List.take_of_length_le]; simp at h; simp [h]
    | cons v r ih =>
      intro cs o h
      simp only [splice]
      simp at h
      rw [ih _ _ (by simp; omega)]
      simp only [Array.toList_setIfInBounds]
      rw [List.take_succ_eq_append_getElem (by simp; omega), List.take_set_of_le (by omega)]
      simp
  have := key vs.toList cs 0 (by simpa using h)
  apply Array.toList_inj.1
  simpa using this
theorem cfgOne (c : Cfg) (m : Option Nat) : (c.cells m).all (·.oneCell') = true := by simp [Value.oneCell']

/-- A list of tenants lies behind this slice. -/
def TenAt (w : World) (a : Option Addr) (ts : List (List UInt8 × Int)) : Prop := ts = [] ∨ ∃ b off, a = some ⟨b, off, none⟩ ∧ b < w.heap.size ∧
  ∀ k (h : k < ts.length), w.cell? ⟨b, off + k * 2, none⟩ = some (encStr (ts[k]'h).1) ∧ w.cell? ⟨b, off + k * 2 + 1, none⟩ = some (.int .i64 (ts[k]'h).2)
def TenOk (ts : List (List UInt8 × Int)) : Prop := (∀ p ∈ ts, p.1.length ≤ maxLen ∧ (Lit.int .i64 p.2).wf = true) ∧ ts.length ≤ big
/-- What the map of a list of tenants reads as. -/
def DT (ts : List (List UInt8 × Int)) : DataW Unit := ts.foldl (fun D p => D.put (.string p.1) (.lit (.int .i64 p.2))) (.map [])
theorem DT_snoc (ts : List (List UInt8 × Int)) (p : List UInt8 × Int) : DT (ts ++ [p]) = (DT ts).put (.string p.1) (.lit (.int .i64 p.2)) := by simp [DT, List.foldl_append]

/-- The map value of a list of tenants (nil, if there is none). -/
abbrev mapV (ts : List (List UInt8 × Int)) (b : Nat) : Option Nat := if ts = [] then none else some b

theorem om_new {V : World} {n : Nat} (h : V.heap.size = n) : OM (V.alloc (.map #[] 0)) n 0 (.map []) := h ▸ World.ownsMap_made (H := Unit) V Tryz.prog 9 (plainElem Tryz.prog 3)

end Go.Proofs.YtojpjaifhjigfabGreatDoor
