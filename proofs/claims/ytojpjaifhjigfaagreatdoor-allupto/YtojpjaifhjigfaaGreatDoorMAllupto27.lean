/- Steps of the proof (several texts in one): LogKept, OpenLog, LogKept2. -/
import Derived.Test.YtojpjaifhjigfaaGreatDoorMAllupto26
import Derived.Test.YtojpjaifhjigfaaGreatDoorMAllupto25
import Derived.Test.YtojpjaifhjigfaaGreatDoorMAllupto15

/- An agent is what its log says: kept by every call. -/
namespace Go.Proofs.YtojpjaifhjigfaaGreatDoor
open Go.RowKit Go.Maps

/-- What lasts of an agent. -/
def Ag.core (M : Ag) : Ag := { Ag.new M.c M.D M.ns with bs := M.bs, dead := M.dead }
structure LInv (M : Ag) : Prop where
  log : Leads (Ag.new M.c M.D M.ns) 0 M.log M.core
  quota : M.QuotaOk
theorem LInv.same {M M' : Ag} (h : LInv M) (e1 : M'.c = M.c) (e2 : M'.D = M.D) (e3 : M'.ns = M.ns) (e4 : M'.bs = M.bs) (e5 : M'.dead = M.dead) (e6 : M'.log = M.log) : LInv M' := by
  refine ⟨?_, ?_⟩
  · have := h.log
    unfold Ag.core at this ⊢
    rw [e1, e2, e3, e4, e5, e6]
    exact this
  · have := h.quota
    unfold Ag.QuotaOk at this ⊢
    rw [e1, e4]
    exact this
theorem linv_new (c : Cfg) (D : DataW Unit) (ns : List (List UInt8)) (hq : 0 ≤ c.q) : LInv (Ag.new c D ns) := by
  refine ⟨Leads.refl _ _, fun x _ => ?_⟩
  show ((waits [] x : Nat) : Int) ≤ c.q
  exact hq

theorem played_core (M : Ag) (e : Ev) : (M.played e).core = M.core.played e := by
  unfold Ag.played
  split <;> rfl
theorem plays_core : ∀ (es : List Ev) (M : Ag), (es.foldl Ag.played M).core = es.foldl Ag.played M.core
  | [], _ => rfl
  | e :: es, M => by rw [List.foldl_cons, List.foldl_cons, plays_core es, played_core]
theorem chain_core : ∀ (es : List Ev) (M : Ag), Chain M es → Chain M.core es
  | [], _, _ => trivial
  | e :: es, M, h => ⟨h.1, by rw [← played_core]; exact chain_core es _ h.2⟩
theorem quota_core (M : Ag) : M.core.QuotaOk ↔ M.QuotaOk := Iff.rfl

theorem plays_same : ∀ (es : List Ev) (M : Ag), (es.foldl Ag.played M).c = M.c ∧ (es.foldl Ag.played M).D = M.D ∧ (es.foldl Ag.played M).ns = M.ns
  | [], _ => ⟨rfl, rfl, rfl⟩
  | e :: es, M => by
    obtain ⟨h1, h2, h3⟩ := plays_same es (M.played e)
    rw [List.foldl_cons, h1, h2, h3]
    unfold Ag.played
    split <;> exact ⟨rfl, rfl, rfl⟩
theorem mayStand_call (n : Nat) : mayStand (43 : UInt8).toNat n = true := by simp [mayStand]
theorem LInv.recorded {M : Ag} {es : List Ev} (h : LInv M) (ht : ∀ e ∈ es, e.Tell) (hl : (es.flatMap Ev.bytes).length < 65536) (hc : Chain M es) (hq : (es.foldl Ag.played M).QuotaOk) : LInv (M.recorded es) := by
  obtain ⟨s1, s2, s3⟩ := plays_same es M
  refine ⟨?_, hq⟩
  show Leads (Ag.new (es.foldl Ag.played M).c (es.foldl Ag.played M).D (es.foldl Ag.played M).ns) 0 (M.log ++ recB 43 es) (es.foldl Ag.played M).core
  rw [s1, s2, s3, plays_core]
  refine h.log.trans ?_
  by_cases hne : es = []
  · subst hne
    exact Leads.refl _ _
  · refine Leads.record hne ht hl (chain_core es M hc) (mayStand_call _) ?_
    rw [← plays_core]
    exact hq

/-- How many of a lane wait. -/
theorem pend_len (bs : List Bat) (d : Int) (t : List UInt8) : (pend bs d t).length = bs.countP (fun b => decide (b.dst = d) && decide (b.ten = t) && decide (b.st = 1)) := by
  unfold pend
  rw [List.length_map, ← List.countP_eq_length_filter]
  have : bs = bs.zipIdx.map (·.1) := by simp
  conv => rhs; rw [this]
  rw [List.countP_map]
  rfl
theorem countP_modify_le {α : Type} (p : α → Bool) (f : α → α) (hf : ∀ a, p (f a) = true → p a = true) : ∀ (l : List α) (i : Nat), (l.modify i f).countP p ≤ l.countP p
  | [], i => by cases i <;> simp
  | a :: l, 0 => by
    rw [List.modify_zero_cons, List.countP_cons, List.countP_cons]
    by_cases h : p (f a) = true
    · rw [if_pos h, if_pos (hf a h)]; exact Nat.le_refl _
    · rw [if_neg h]; omega
  | a :: l, i + 1 => by
    rw [List.modify_succ_cons, List.countP_cons, List.countP_cons]
    have := countP_modify_le p f hf l i
    omega
theorem waits_played (M : Ag) {e : Ev} (hk : e.kind ≠ 0) (x : List UInt8) : waits (M.played e).bs x ≤ waits M.bs x := by
  rw [played_not0 M hk]
  have key : ∀ d : Int, (pend (M.bs.modify e.pl (fun b => b.ended e.kind e.f)) d x).length ≤ (pend M.bs d x).length := fun d => by
    rw [pend_len, pend_len]
    refine countP_modify_le _ _ (fun b hb => ?_) _ _
    simp only [Bool.and_eq_true, decide_eq_true_eq] at hb ⊢
    refine ⟨hb.1, ?_⟩
    have h3 := hb.2
    unfold Bat.ended at h3
    simp only at h3
    split at h3
    · omega
    · split at h3
      · omega
      · exact h3
  have h0 := key 0
  have h1 := key 1
  have h2 := key 2
  have h3 := key 3
  show waits (M.bs.modify e.pl _) x ≤ _
  unfold waits
  omega
theorem quota_plays : ∀ (es : List Ev) (M : Ag), (∀ e ∈ es, e.kind ≠ 0) → M.QuotaOk → (es.foldl Ag.played M).QuotaOk
  | [], _, _, h => h
  | e :: es, M, hk, h => by
    rw [List.foldl_cons]
    refine quota_plays es _ (fun e' he => hk e' (by simp [he])) (fun x hx => ?_)
    have h1 := waits_played M (hk e (by simp)) x
    have h2 := h x hx
    have h3 : (M.played e).c = M.c := by unfold Ag.played; split <;> rfl
    rw [h3]
    omega
/-- Events about different batches can come one behind the other. -/
theorem chain_of : ∀ (es : List Ev) (M : Ag), (∀ e ∈ es, e.kind ≠ 0 ∧ M.canBe e = true) → (es.map Ev.pl).Nodup → Chain M es
  | [], _, _, _ => trivial
  | e :: es, M, h, hn => by
    simp only [List.map_cons, List.nodup_cons] at hn
    refine ⟨(h e (by simp)).2, chain_of es _ (fun e' he' => ?_) hn.2⟩
    obtain ⟨h1, h2⟩ := h e' (by simp [he'])
    refine ⟨h1, ?_⟩
    have hne : e.pl ≠ e'.pl := fun e'' => hn.1 (by rw [e'']; exact List.mem_map_of_mem he')
    rw [← h2, played_not0 M (h e (by simp)).1]
    unfold Ag.canBe
    rw [if_neg h1, if_neg h1]
    have hmod : (M.bs.modify e.pl (fun b => b.ended e.kind e.f))[e'.pl]? = M.bs[e'.pl]? := by
      rw [List.getElem?_modify]
      simp [hne]
    simp only [hmod]
/-- What settle says can come next. -/
theorem settled_can {M : Ag} {d : Nat} {o : Out} {p : Nat} {b : Bat} {r : Ret} {draw : Int} (h : SetOk M d o p b r draw) (good : Bool) (h120' : M.bs.length ≤ 120) (hst : b.st = 1) (hfl : b.fl < M.c.at') : (M.settled d good draw).2.kind ≠ 0 ∧ M.canBe (M.settled d good draw).2 = true ∧ (M.settled d good draw).2.Tell ∧ (M.settled d good draw).2.pl = p := by
  have hp : p < M.bs.length := (List.getElem?_eq_some_iff.1 h.hb).1
  rw [settled_eq h good]
  have h120 : p < 256 := by omega
  cases good
  · by_cases hd : M.c.at' ≤ b.fl + 1
    · simp only [Bool.false_eq_true, if_false, if_pos hd]
      refine ⟨by simp [Ev.of], ?_, Or.inr ⟨by simp [Ev.of], by simp [Ev.of], h120, by simp [Ev.of]⟩, rfl⟩
      unfold Ag.canBe
      simp only [Ev.of, h.hb]
      have : b.fl + 1 = M.c.at' := by omega
      simp [hst, this]
    · simp only [Bool.false_eq_true, if_false, if_neg hd]
      refine ⟨by simp [Ev.of], ?_, Or.inr ⟨by simp [Ev.of], by simp [Ev.of], h120, by simp [Ev.of]⟩, rfl⟩
      unfold Ag.canBe
      simp only [Ev.of, h.hb]
      have : b.fl + 1 < M.c.at' := by omega
      simp [hst, this]
  · simp only [if_true]
    refine ⟨by simp [Ev.of], ?_, Or.inr ⟨by simp [Ev.of], by simp [Ev.of], h120, by simp [Ev.of]⟩, rfl⟩
    unfold Ag.canBe
    simp only [Ev.of, h.hb]
    simp [hst, hfl]

theorem LInv.later {M : Ag} (h : LInv M) (ms : Int) : LInv (M.later ms) := h.same rfl rfl rfl rfl rfl rfl
theorem settled_same {M : Ag} {d : Nat} {o : Out} {p : Nat} {b : Bat} {r : Ret} {draw : Int} (h : SetOk M d o p b r draw) (good : Bool) : (M.settled d good draw).1.c = M.c ∧ (M.settled d good draw).1.D = M.D ∧ (M.settled d good draw).1.ns = M.ns ∧ (M.settled d good draw).1.bs = M.bs ∧ (M.settled d good draw).1.dead = M.dead ∧ (M.settled d good draw).1.log = M.log := by
  rw [settled_eq h good]
  cases good
  · by_cases hd : M.c.at' ≤ b.fl + 1
    · simp only [Bool.false_eq_true, if_false, if_pos hd]
      exact ⟨rfl, rfl, rfl, rfl, rfl, rfl⟩
    · simp only [Bool.false_eq_true, if_false, if_neg hd]
      exact ⟨rfl, rfl, rfl, rfl, rfl, rfl⟩
  · simp only [if_true]
    exact ⟨rfl, rfl, rfl, rfl, rfl, rfl⟩
theorem canBe_same {M M' : Ag} (e1 : M'.c = M.c) (e2 : M'.D = M.D) (e4 : M'.bs = M.bs) (e : Ev) : M'.canBe e = M.canBe e := by
  unfold Ag.canBe Ag.misfit destB
  rw [e1, e2, e4]
theorem LInv.replied {M : Ag} {t d : Nat} {o : Out} {draw : Int} (h : LInv M) (hi : Inv M t) (ht : t ≤ 10000000000000) (hd : 0 ≤ draw) (ho : M.os[d]? = some o) (hw : o.way ≠ -1) (good : Bool) : LInv (M.replied d good draw) := by
  obtain ⟨p, b, r, hs, hst, hdst, hfl⟩ := hi.setOk ht hd ho hw
  obtain ⟨k1, k2, k3, k4⟩ := settled_can hs good hi.b120 hst hfl
  obtain ⟨s1, s2, s3, s4, s5, s6⟩ := settled_same hs good
  have h1 : LInv (M.settled d good draw).1 := h.same s1 s2 s3 s4 s5 s6
  refine h1.recorded (fun e he => ?_) ?_ ⟨?_, trivial⟩ (quota_plays _ _ (fun e he => ?_) h1.quota)
  · rw [List.mem_singleton.1 he]; exact k3
  · have := k3.le
    simp
    omega
  · rw [canBe_same s1 s2 s4]; exact k2
  · rw [List.mem_singleton.1 he]; exact k1

/-- What gives up can come next. -/
theorem gaveUp_can {M : Ag} {draw : Int} (h : GiveOk M draw) (h120 : M.bs.length ≤ 120) : ∀ k, ∀ e ∈ (M.gaveUp draw k).2, e.kind ≠ 0 ∧ M.canBe e = true ∧ e.Tell
  | 0 => fun e he => by simp [Ag.gaveUp] at he
  | k + 1 => fun e he => by
    have ih := gaveUp_can h h120 k
    unfold Ag.gaveUp at he
    cases ho : M.os[k]? with
    | none => rw [ho] at he; exact ih e he
    | some o =>
      rw [ho] at he
      simp only at he
      by_cases hw : o.way ≠ -1 ∧ M.c.ti ≤ M.now - o.began
      · rw [if_pos hw] at he
        obtain ⟨p, b, r, hs, hst, hdst, hb, hfl⟩ := h.set (gaveUp_gave h k) ho hw.1
        have hg := gaveUp_gave h k
        rcases List.mem_append.1 he with h1 | h1
        · exact ih e h1
        · rw [List.mem_singleton.1 h1]
          obtain ⟨k1, k2, k3, _⟩ := settled_can hs false (by rw [hg.bs]; exact h120) hst (by rw [hg.c]; exact hfl)
          exact ⟨k1, by rw [← canBe_same hg.c hg.D hg.bs]; exact k2, k3⟩
      · rw [if_neg hw] at he
        exact ih e he
theorem LInv.timed {M : Ag} {t : Nat} {draw : Int} (h : LInv M) (hi : Inv M t) (ht : t ≤ 10000000000000) (hd : 0 ≤ draw) : LInv (M.timed draw) := by
  have hg := hi.giveOk ht hd
  have hv := gaveUp_gave hg M.os.length
  have hcan := gaveUp_can hg hi.b120 M.os.length
  obtain ⟨_, hnd, _⟩ := gaveUp_evs hg M.os.length
  have hlen := gaveUp_len (M := M) (draw := draw) M.os.length
  have h1 : LInv (M.gaveUp draw M.os.length).1 := h.same hv.c hv.D hv.ns hv.bs hv.dead hv.log
  refine h1.recorded (fun e he => (hcan e he).2.2) ?_ (chain_of _ _ (fun e he => ⟨(hcan e he).1, by rw [canBe_same hv.c hv.D hv.bs]; exact (hcan e he).2.1⟩) hnd) (quota_plays _ _ (fun e he => (hcan e he).1) h1.quota)
  have := tell_len _ (fun e he => (hcan e he).2.2)
  have := hg.o4
  omega
theorem sentOut_same (M : Ag) : ∀ k, (M.sentOut k).1.c = M.c ∧ (M.sentOut k).1.D = M.D ∧ (M.sentOut k).1.ns = M.ns ∧ (M.sentOut k).1.bs = M.bs ∧ (M.sentOut k).1.dead = M.dead ∧ (M.sentOut k).1.log = M.log
  | 0 => ⟨rfl, rfl, rfl, rfl, rfl, rfl⟩
  | k + 1 => by
    obtain ⟨h1, h2, h3, h4, h5, h6⟩ := sentOut_same M k
    have key : ∀ (N : Ag) (d : Nat), (N.sentTo d).1.c = N.c ∧ (N.sentTo d).1.D = N.D ∧ (N.sentTo d).1.ns = N.ns ∧ (N.sentTo d).1.bs = N.bs ∧ (N.sentTo d).1.dead = N.dead ∧ (N.sentTo d).1.log = N.log := fun N d => by
      unfold Ag.sentTo
      cases N.os[d]? with
      | none => exact ⟨rfl, rfl, rfl, rfl, rfl, rfl⟩
      | some o =>
        simp only
        split <;> exact ⟨rfl, rfl, rfl, rfl, rfl, rfl⟩
    obtain ⟨k1, k2, k3, k4, k5, k6⟩ := key (M.sentOut k).1 k
    show ((M.sentOut k).1.sentTo k).1.c = M.c ∧ _
    exact ⟨k1.trans h1, k2.trans h2, k3.trans h3, k4.trans h4, k5.trans h5, k6.trans h6⟩
theorem LInv.ticked {M : Ag} {t : Nat} {ms draw : Int} (h : LInv M) (hi : Inv M t) (ht : t + 1 ≤ 10000000000000) (h0 : 0 ≤ ms) (h1 : ms ≤ 60000) (hd : 0 ≤ draw) : LInv (M.ticked ms draw).1 := by
  have h2 : LInv ((M.later ms).timed draw) := (h.later ms).timed (hi.later h0 h1) ht hd
  obtain ⟨k1, k2, k3, k4, k5, k6⟩ := sentOut_same ((M.later ms).timed draw) ((M.later ms).timed draw).os.length
  exact h2.same k1 k2 k3 k4 k5 k6
end Go.Proofs.YtojpjaifhjigfaaGreatDoor

/- Open of a log. -/
namespace Go.Proofs.YtojpjaifhjigfaaGreatDoor
open Go.RowKit Go.Maps

/-- A new agent, ahead of replay, with its labels. -/
theorem agentAt_new0 {w w1 : World} {c : Cfg} {D : DataW Unit} {g bq bm cn go : Nat} {nv : Value} {ns : List (List UInt8)} {fs : List (Value × Value)} (L : Labs) (who : Nat) (h : NewAg w w1 c D g bq bm cn go nv ns fs) (hsz : Maps.size D = ns.length) : AgentAt w1 (newLabs L w.heap.size w1 who bq fs) who g (Ag.new c D ns) := by
  have hmap : ∀ (b : Nat) (es : Array MapEntry) (cl : Nat), w1.heap[b]? = some (.map es cl) → w1.heap[b]? = some (.map es cl) := fun b es cl hb => hb
  have hblk : ∀ b cs t, Blk w1 b cs t → t ≠ 138 → Blk w1 b cs t := fun b cs t hb _ => hb
  have hw1 : w.heap.size ≤ w1.heap.size := h.bw.size
  have hK := h.blk
  refine ⟨bq, bm, cn, .slice none 0 0, .slice none 0 0, nv, .slice none 0 0, .slice (some ⟨go, 0, none⟩) c.d.toNat c.d.toNat, ?_⟩
  refine { blk := ⟨hK, by rw [newLabs_cells h.bg hK]; rfl⟩, tk := RowAt.nil _ _ _ _ _, qs := queuesAt_empty (hmap _ _ _ h.qm) (by rw [newLabs_map h.bbq (hmap _ _ _ h.qm)]; simp), dd := RowAt.nil _ _ _ _ _, nm := ?_, rt := ?_, ol := ?_, cm := ?_ }
  · refine ⟨⟨h.nm.1, ?_⟩, fun q hq => ?_⟩
    · rcases h.nm.2 with q | ⟨q, cap, cur, q1, q2, q3, q4⟩
      · exact Or.inl q
      · exact Or.inr ⟨q, cap, cur, q1, Nat.zero_le _, hblk _ _ _ q3 (by decide), q4⟩
    · rcases h.nm.2 with ⟨q1, _⟩ | ⟨q', cap, cur, q1, q2, q3, q4⟩
      · rw [q1] at hq; cases hq
      · rw [q1] at hq
        obtain rfl : q' = q := by simpa [Value.ownBlock] using hq
        rw [newLabs_cells q2 (hblk _ _ _ q3 (by decide))]
        rfl
  · exact RowAt.nil _ _ _ _ _
  · have hfl := h.fl
    refine ⟨fs, by simp [Ag.new, hfl], ?_, fun i o f hio hif => ?_⟩
    · have e : (Ag.new c D ns).os.length = c.d.toNat := by simp [Ag.new]
      have e2 : (((Ag.new c D ns).os.zip fs).flatMap fun p => p.1.cells p.2.1 p.2.2) = fs.flatMap fun f => (Out.zero (Maps.size D)).cells f.1 f.2 := by
        rw [← zip_flat, hfl, hsz]
        rfl
      rw [e, e2]
      refine ⟨⟨h.ol.1, ?_⟩, fun q hq => ?_⟩
      · rcases h.ol.2 with ⟨q, _⟩ | ⟨q, cap, cur, q1, q2, q3, q4⟩
        · cases q
        · exact Or.inr ⟨q, cap, cur, q1, Nat.zero_le _, hblk _ _ _ q3 (by decide), q4⟩
      · rcases h.ol.2 with ⟨q, _⟩ | ⟨q', cap, cur, q1, q2, q3, q4⟩
        · cases q
        · rw [q1] at hq
          obtain rfl : q' = q := by simpa [Value.ownBlock] using hq
          rw [newLabs_cells q2 (hblk _ _ _ q3 (by decide))]
          rfl
    · have hoz : o = Out.zero (Maps.size D) := by
        have := List.mem_of_getElem? hio
        simp only [Ag.new, List.mem_replicate] at this
        rw [this.2, hsz]
        rfl
      subst hoz
      obtain ⟨g1, g2, hf, b1, b2, k1, k2⟩ := h.md i f hif
      have hgo := h.bo
      refine ⟨g1, by rw [hf], ⟨hblk _ _ _ k1 (by decide), by rw [newLabs_cells (by omega) (hblk _ _ _ k1 (by decide))]; rfl⟩, ⟨?_, fun q hq => ?_⟩⟩
      · rw [hf]
        have e : (Out.zero (Maps.size D)).cr.length = Maps.size D := by simp [Out.zero]
        have e2 : intsI (Out.zero (Maps.size D)).cr = List.replicate (Maps.size D) (.int .i64 0) := by simp [Out.zero, intsI]
        rw [e, e2]
        refine ⟨k2.1, ?_⟩
        rcases k2.2 with ⟨q, _⟩ | ⟨q, cap, cur, q1, q2, q3, q4⟩
        · cases q
        · exact Or.inr ⟨q, cap, cur, q1, Nat.zero_le _, hblk _ _ _ q3 (by decide), q4⟩
      · have hfo : f.2.ownBlock = some g2 := by rw [hf]; rfl
        rw [hfo] at hq
        obtain rfl : g2 = q := by simpa using hq
        rcases k2.2 with ⟨q, _⟩ | ⟨q, cap, cur, q1, q2, q3, q4⟩
        · cases q
        · obtain rfl : g2 = q := by simpa using (by simpa using q1 : g2 = q ∧ _).1
          rw [newLabs_cells (by omega) (hblk _ _ _ q3 (by decide)), apart_find h.ap hif hfo]
          rfl
  · refine ⟨?_, ?_⟩
    · obtain ⟨es, cl, hb, r⟩ := h.cm
      exact ⟨es, cl, hmap _ _ _ hb, r⟩
    · obtain ⟨es, cl, hb, r⟩ := h.cm
      rw [newLabs_map h.bbm (hmap _ _ _ hb), if_neg (fun e => h.ne e.symm)]

theorem rinv_new {w : World} {b n : Nat} {c : Cfg} {D : DataW Unit} {ns : List (List UInt8)} (h : OM w b n D) (hg : GoodC c D) (hp : ns.Perm (strKeys D)) : RInv (Ag.new c D ns) := by
  have hi := inv_new h hg hp
  exact ⟨hi.good, hi.sl, hi.hs, hi.b120, hi.each, hi.dead, hi.ddn⟩

/-- What Open of a log brings. -/
def OpenedLog (who : Nat) (A : Nat → Addr) (c : Cfg) (D : DataW Unit) (log : List UInt8) (w : World) (e : Ending) (w' : World) : Prop :=
  ∃ ns res, ns.Perm (strKeys D) ∧ ns.Pairwise (fun x y => x ≤ y) ∧ Replays (Ag.new c D ns) 0 log res ∧ Below w.heap.size w w' ∧ (res = none → e = .returned (.tuple #[.pointer none, ev A 1])) ∧
    (∀ M' n, res = some (M', n) → ∃ g L', e = .returned (.tuple #[.pointer (some ⟨g, 0, none⟩), .nilIface]) ∧ AgentAt w' L' who g (M'.reborn (log.take n)) ∧ w.heap.size ≤ g ∧ (∀ k, k < w.heap.size → L' k = none) ∧ ∀ k, w'.heap.size ≤ k → L' k = none)

set_option maxRecDepth 100000 in
set_option maxHeartbeats 2000000 in
theorem open_log (A : Nat → Addr) (who : Nat) (c : Cfg) (m : Option Nat) (D : DataW Unit) (log : List UInt8) (w : World) (hS : Sents.Holds w 260 gl 11 A) (h : MapAt w m D) (hg : GoodC c D) (hlog : log.length ≤ 100000000000000) :
    Calls Tryz.prog 26 #[c.val m, encStr log] w fun e w' => OpenedLog who A c D log w e w' := by
  have H := hide h
  have hd := Cfg.num_d hg.1
  obtain ⟨b, n, rfl, hown⟩ : ∃ b n, m = some b ∧ OM w b n D := by
    rcases h with ⟨_, rfl⟩ | ⟨b, n, h1, h2, _⟩
    · exact absurd hg.2.1.1.1 (by simp [Maps.size])
    · exact ⟨b, n, h1, h2⟩
  have hsz : Maps.size D ≤ 8 := hg.2.1.1.2
  have HO := hide hown
  have HG := hide hg
  have HS := hide hS
  clear h hown hg hS
  go_enter Tryz.func26, Tryz.ntmps26
  go_wp2_with fail
  refine (isConfig_any c (some b) D _ (H.out.alloc _)).mono ?_
  rintro e w1 ⟨r, rfl, hr, hb1⟩
  obtain rfl : r = true := hr.2 HG.out
  clear hr
  have hB1 : Below w.heap.size w w1 := ((Below.refl _ _).alloc (Nat.le_refl _) _).trans (hb1.mono (by simp))
  have Hb1 := hide hb1
  have HB1 := hide hB1
  obtain ⟨hc1, _⟩ := bcell hb1
  simp only [World.size_alloc] at hc1
  clear hb1 hB1
  go_wp2_with fail
  refine (newAgent_any c b n D _ hd.1 hd.2 (om_below (HO.out.alloc _) Hb1.out (HO.out.alloc _).lt) hsz).mono ?_
  rintro e w2 ⟨g, bq, bm, cn, go, nv, ns, fs, rfl, hN⟩
  have hA2 := agentAt_new0 (fun _ => none) who hN (by rw [hN.pm.length_eq, size_strKeys HO.out])
  have hB2 : Below w.heap.size w w2 := HB1.out.trans (hN.bw.mono HB1.out.size)
  have hL2 : ∀ k, k < w1.heap.size → newLabs (fun _ => none) w1.heap.size w2 who bq fs k = none := fun k hk => newLabs_old _ _ _ _ _ _ k hk
  have hz1 : w.heap.size ≤ w1.heap.size := HB1.out.size
  have hgw : w.heap.size ≤ g := Nat.le_trans hz1 hN.bg
  have hE2 : ErrsAt w2 (newLabs (fun _ => none) w1.heap.size w2 who bq fs) A := by
    have hS2 := HS.out.below hB2
    refine ⟨hS2, fun i hi => hL2 _ ?_, fun i hi => hL2 _ ?_⟩
    · exact Nat.lt_of_lt_of_le (World.block_lt_of_cell? w _ (HS.out.cell i hi)) hz1
    · obtain ⟨c', t', hc'⟩ := HS.out.block i hi
      exact Nat.lt_of_lt_of_le (Array.getElem?_eq_some_iff.1 hc').1 hz1
  generalize newLabs (fun _ => none) w1.heap.size w2 who bq fs = L2 at *
  have HRp := hide (replay_any A L2 who g (Ag.new c D ns) log w2 hE2 hA2 (rinv_new HO.out HG.out hN.pm) hlog)
  have Hpm := hide hN.pm
  have Hso := hide hN.so
  have HB2 := hide hB2
  have HL2 := hide hL2
  unfold Replayed at HRp
  clear hN hc1 hA2 hB2 hL2 hE2
  go_wp2_with fail
  refine HRp.out.mono ?_
  rintro e w3 ⟨res, hres, h1, h2⟩
  have hbelow : ∀ M', Turned w2 L2 who g M' w3 → Below w.heap.size w w3 := fun M' ⟨L3, _, q2⟩ => HB2.out.trans (q2.below HB2.out.size (fun k hk => by rw [HL2.out k (Nat.lt_of_lt_of_le hk hz1)]; exact fun ⟨q, e⟩ => (by cases e)))
  cases hr : res with
  | none =>
    subst hr
    obtain ⟨rfl, M3, hT⟩ := h1 rfl
    have hB3 := hbelow M3 hT
    have c1 := (HS.out.below hB3).cell 1 (by decide)
    simp only [gl, List.getD_cons_zero, List.getD_cons_succ] at c1
    have HB3 := hide hB3
    have Hres := hide hres
    clear h1 h2 hbelow hT hB3 hres
    go_wp2_with fail
    go_quiet (fail)
    go_wp2_with fail
    go_ret2
    exact ⟨ns, none, Hpm.out, Hso.out, Hres.out, below_drewN HB3.out _, (fun _ => rfl), (fun M' n' e => (by cases e))⟩
  | some x =>
    subst hr
    obtain ⟨M3, n3⟩ := x
    obtain ⟨rfl, hT⟩ := h2 M3 n3 rfl
    have HB3 := hide (hbelow _ hT)
    have HT := hide hT
    have Hres := hide hres
    clear h1 h2 hbelow hT hres
    go_wp2_with fail
    go_ret2
    refine ⟨ns, some (M3, n3), Hpm.out, Hso.out, Hres.out, HB3.out, (fun e => (by cases e)), fun M' n' e => ?_⟩
    cases e
    obtain ⟨L3, q1, q2⟩ := HT.out
    refine ⟨g, clip L3 w3.heap.size, rfl, q1.keep (Step.clipped (p := fun _ => False) L3 w3) (fun _ h => h), hgw, fun k hk => ?_, fun k hk => clip_none L3 hk⟩
    have h2z : k < w2.heap.size := Nat.lt_of_lt_of_le hk HB2.out.size
    rw [clip, if_pos (Nat.lt_of_lt_of_le h2z q2.size), q2.lab k h2z]
    exact HL2.out k (Nat.lt_of_lt_of_le hk hz1)
end Go.Proofs.YtojpjaifhjigfaaGreatDoor

/- What Submit and a crash leave of it. -/
namespace Go.Proofs.YtojpjaifhjigfaaGreatDoor
open Go.RowKit Go.Maps

theorem recBytes_rec (b : Bat) (ht : b.ten.length ≤ 16) (hid : b.id.length ≤ 16) (hbo : b.body.length ≤ 63) : recBytes b = recB 43 [tookEv b] := by
  have hl := evBytes_le b ht hid hbo
  have e : [tookEv b].flatMap Ev.bytes = evBytes b := by simp [tookEv, Ev.bytes]
  unfold recB recBytes
  rw [if_neg (by simp), e, Nat.div_eq_of_lt (show (evBytes b).length < 256 by omega), Nat.mod_eq_of_lt (show (evBytes b).length < 256 by omega)]
  rfl
theorem waits_snoc_le (bs : List Bat) (b : Bat) (h0 : 0 ≤ b.dst) (h4 : b.dst < 4) (x : List UInt8) : waits (bs ++ [b]) x ≤ waits bs x + if b.ten = x then 1 else 0 := by
  rw [waits_snoc bs b h0 h4 x]
  by_cases hx : b.ten = x
  · rw [if_pos hx]
    split <;> omega
  · simp [hx]
theorem LInv.submitted {M : Ag} {t : Nat} (h : LInv M) (hi : Inv M t) (b : Bat) : LInv (M.submitted b) := by
  unfold Ag.submitted
  split
  · rename_i hr
    obtain ⟨r1, r2, r3, r4, r5, r6, r7⟩ := refusal_zero hr
    have hten := (hi.sl _ ((hi.hs b.ten).2 r2)).2
    have hd := (Cfg.ok hi.good.1).d
    simp [destB] at r1
    simp [inB] at r3
    have htell : (tookEv b).Tell := Or.inl ⟨rfl, rfl, rfl, by show 0 ≤ b.dst; omega, by show b.dst < 4; omega, hten, by show b.id.length ≤ 16; omega, r4⟩
    have hmis : M.misfit b = 0 := by
      unfold Ag.refusal at hr
      by_cases h1 : M.misfit b = 0
      · exact h1
      · rw [if_pos h1] at hr; exact hr
    have hp : M.played (tookEv b) = { M with bs := M.bs ++ [b.fresh] } := by
      unfold Ag.played
      rw [if_pos (show (tookEv b).kind = 0 from rfl)]
      rfl
    have h1 : LInv (M.recorded [tookEv b]) := by
      refine h.recorded (fun e he => by rw [List.mem_singleton.1 he]; exact htell) (by have := htell.le; simp; omega) ⟨?_, trivial⟩ (fun x hx => ?_)
      · unfold Ag.canBe
        rw [if_pos (show (tookEv b).kind = 0 from rfl)]
        show (M.misfit b == 0) = true
        rw [hmis]
        rfl
      · rw [List.foldl_cons, List.foldl_nil, hp]
        have h2 := waits_snoc_le M.bs b.fresh (show 0 ≤ b.dst by omega) (show b.dst < 4 by omega) x
        have h3 := h.quota x hx
        show ((waits (M.bs ++ [b.fresh]) x : Nat) : Int) ≤ M.c.q
        by_cases hx2 : b.fresh.ten = x
        · have : b.ten = x := hx2
          rw [if_pos hx2] at h2
          rw [this] at r7
          omega
        · rw [if_neg hx2] at h2
          omega
    refine h1.same ?_ ?_ ?_ ?_ ?_ ?_
    all_goals (unfold Ag.recorded; rw [List.foldl_cons, List.foldl_nil, hp])
    · rfl
    · rfl
    · rfl
    · rfl
    · rfl
    · show M.log ++ recBytes b = M.log ++ recB 43 [tookEv b]
      rw [recBytes_rec b hten (by omega) r4]
  · exact h

/-- The agent behind a crash. -/
def Ag.crashed (M : Ag) : Ag := M.core.reborn M.log
theorem LInv.crashed {M : Ag} (h : LInv M) : LInv M.crashed := h.same rfl rfl rfl rfl rfl rfl
theorem Inv.crashed {M : Ag} {t : Nat} (h : Inv M t) : Inv M.crashed t := by
  have hc := Cfg.ok h.good.1
  have hO : ∀ (d : Nat) (o : Out), M.crashed.os[d]? = some o → o = { res := 0, fl := 0, trip := false, unt := 0, turn := 0, cr := List.replicate M.ns.length 0, sends := 0, way := -1, began := 0 } := fun d o ho => by
    have := List.mem_of_getElem? ho
    exact (List.mem_replicate.1 this).2
  have hn1 := h.n1
  refine ⟨h.good, h.pm, h.nd, h.nl, h.n1, h.sl, h.hs, h.q, h.b120, h.each, h.dead, h.ddn, ?_, fun r hr => ?_, ?_, fun d o ho => ?_, fun d o ho => ?_, Int.le_refl _, ?_, h.lg⟩
  · show (List.replicate M.bs.length _).length = M.bs.length
    simp
  · have hr2 : r ∈ List.replicate M.bs.length (⟨0, M.c.ba⟩ : Ret) := hr
    rw [(List.mem_replicate.1 hr2).2]
    exact ⟨Int.le_refl _, hc.ba.2⟩
  · show ((List.replicate M.c.d.toNat _).length : Int) = M.c.d
    have := hc.d
    simp
    omega
  · rw [hO d o ho]
    have := hc.wi
    refine ⟨Int.le_refl _, by show (0 : Int) < M.c.wi; omega, Int.le_refl _, Int.le_refl _, ⟨by show 0 < M.ns.length; omega, by simp; rfl, fun i hi => ?_, fun i hi hne => ?_, ?_⟩, Int.le_refl _, by show (0 : Int) ≤ (t : Int); omega, Int.le_refl _, Int.le_refl _⟩
    all_goals (simp [List.getD_eq_getElem?_getD, List.getElem?_replicate]; try (split <;> simp))
  · rw [hO d o ho]
    exact Or.inl rfl
  · show (0 : Int) ≤ 60000 * (t : Int)
    omega
end Go.Proofs.YtojpjaifhjigfaaGreatDoor
