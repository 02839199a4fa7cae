/- Steps of the proof (several texts in one): LawCalls, LawWorld, LawAsked. -/
import Derived.Test.YtojpjaifhjigfaaGreatDoorMSentupto20
import Derived.Test.YtojpjaifhjigfaaGreatDoorMSentupto21
import Derived.Test.YtojpjaifhjigfaaGreatDoorMSentupto17
import Derived.Test.YtojpjaifhjigfaaGreatDoorMSentupto22

/- The calls of a pair: what the program's agent and the document's answer, side by side. -/
namespace Go.Proofs.YtojpjaifhjigfaaGreatDoor
open Go.RowKit Go.Maps

/-! ### Labels said otherwise -/
theorem BlkAt.shift {w : World} {L L' : Labs} {l l' : Lab} {g : Nat} {cur : Array Value} {e : TypeId} (h : BlkAt w L l g cur e) (r : ∀ k, L k = l → L' k = l') : BlkAt w L' l' g cur e := ⟨h.1, r _ h.2⟩
theorem RowAt.shift {w : World} {L L' : Labs} {l l' : Lab} {e : TypeId} {size : Nat} {v : Value} {n : Nat} {xs : List Value} (h : RowAt w L l e size v n xs) (r : ∀ k, L k = l → L' k = l') : RowAt w L' l' e size v n xs := ⟨h.1, fun g hg => r _ (h.2 g hg)⟩
theorem OMapAt.shift {H : Type} {w : World} {L L' : Labs} {l l' : Lab} {P : Program} {k : TypeId} {R : Value → Option (DataW H × List MemPlace)} {b n : Nat} {D : DataW H} (h : OMapAt w L l P k R b n D) (r : ∀ k, L k = l → L' k = l') : OMapAt w L' l' P k R b n D := ⟨h.1, r _ h.2⟩
/-- What was who's is now who''s. -/
def Shift (who who' : Nat) (L L' : Labs) : Prop := ∀ k q, L k = some (who, q) → L' k = some (who', q)
theorem AgentAt.shift {w : World} {L L' : Labs} {who who' g : Nat} {M : Ag} (h : AgentAt w L who g M) (r : Shift who who' L L') : AgentAt w L' who' g M := by
  obtain ⟨bq, bm, cn, tv, dv, nv, rv, ov, h⟩ := h
  obtain ⟨D, q1, q2, q3, q4, q5⟩ := h.qs
  obtain ⟨fs, o1, o2, o3⟩ := h.ol
  refine ⟨bq, bm, cn, tv, dv, nv, rv, ov, h.blk.shift (fun k => r k _), h.tk.shift (fun k => r k _), ⟨D, q1.shift (fun k => r k _), q2, q3, q4, fun d t hl => (q5 d t hl).shift (fun k => r k _)⟩, h.dd.shift (fun k => r k _), h.nm.shift (fun k => r k _), h.rt.shift (fun k => r k _), ⟨fs, o1, o2.shift (fun k => r k _), fun i o f hi hf => ?_⟩, h.cm.shift (fun k => r k _)⟩
  obtain ⟨g1, a1, a2, a3⟩ := o3 i o f hi hf
  exact ⟨g1, a1, a2.shift (fun k => r k _), a3.shift (fun k => r k _)⟩
theorem RefAt.shift {w : World} {L L' : Labs} {who who' g : Nat} {R : Rf} (h : RefAt w L who g R) (r : Shift who who' L L') : RefAt w L' who' g R := by
  obtain ⟨nv, qv, bv, dv, la, lk, h⟩ := h
  obtain ⟨fs, o1, o2, o3⟩ := h.ll
  exact ⟨nv, qv, bv, dv, la, lk, h.blk.shift (fun k => r k _), h.nm.shift (fun k => r k _), h.tk.shift (fun k => r k _), h.dd.shift (fun k => r k _), h.qu.shift (fun k => r k _), ⟨fs, o1, o2.shift (fun k => r k _), fun i o f hi hf => (o3 i o f hi hf).shift (fun k => r k _)⟩, h.ln⟩

/-! ### What the two agents hold alike -/
theorem cntP_snoc (bs : List Bat) (b : Bat) (t : List UInt8) : cntP (bs ++ [b]) t = cntP bs t + (if decide (b.ten = t) && decide (b.st = 1) then 1 else 0) := by
  unfold cntP
  rw [List.filter_append, List.length_append]
  congr 1
  simp only [List.filter_cons, List.filter_nil]
  by_cases ht : b.ten = t <;> by_cases hs : b.st = 1 <;> simp [ht, hs]
theorem waits_eq (bs : List Bat) (t : List UInt8) : (∀ b ∈ bs, 0 ≤ b.dst ∧ b.dst < 4) → waits bs t = cntP bs t := by
  refine snoc_ind (P := fun bs => (∀ b ∈ bs, 0 ≤ b.dst ∧ b.dst < 4) → waits bs t = cntP bs t) (fun _ => rfl) (fun l b ih h => ?_) bs
  · have hb := h b (by simp)
    rw [waits_snoc l b hb.1 hb.2, cntP_snoc, ih (fun x hx => h x (by simp [hx]))]
theorem Sim.waits {M : Ag} {R : Rf} {t : Nat} (h : Sim M R) (hi : Inv M t) (x : List UInt8) : waits M.bs x = cntP R.bs x := by
  rw [h.bs]
  have hd := Cfg.num_d hi.good.1
  exact waits_eq M.bs x (fun b hb => ⟨(hi.each b hb).1, by have := (hi.each b hb).2.1; omega⟩)
theorem Sim.inNs {M : Ag} {R : Rf} {t : Nat} (h : Sim M R) (hi : Inv M t) (x : List UInt8) (hx : 0 < cntP R.bs x) : x ∈ R.ns := by
  rw [h.bs] at hx
  unfold cntP at hx
  obtain ⟨b, hb⟩ := List.exists_mem_of_length_pos hx
  rw [List.mem_filter] at hb
  have e : b.ten = x := by have := hb.2; simp at this; exact this.1
  rw [← e, h.ns]
  exact (hi.each b hb.1).2.2.1
theorem Inv.dead_lt {M : Ag} {t : Nat} (h : Inv M t) : ∀ p ∈ M.dead, p < M.bs.length := fun p hp => by
  obtain ⟨b, hb, _⟩ := (h.dead p).1 hp
  exact (List.getElem?_eq_some_iff.1 hb).1
theorem Sim.r120 {M : Ag} {R : Rf} {t : Nat} (h : Sim M R) (hi : Inv M t) : R.rs.length ≤ 120 := by rw [h.rl]; exact hi.b120
theorem sim_refusal {M : Ag} {R : Rf} {t : Nat} (h : Sim M R) (hi : Inv M t) (b : Bat) : R.refusal b = M.refusal b := by
  have hr := h.rl
  have e1 : (¬ (0 ≤ b.dst ∧ b.dst < R.c.d)) ↔ destB M b.dst = false := by
    rw [h.c]; simp [destB]
  have e2 : findN R.ns b.ten < 0 ↔ Maps.has M.D (.string b.ten) = false := by
    rw [findN_neg, h.ns, hi.hs]; simp
  have e3 : (b.id.length < 1 ∨ 16 < b.id.length) ↔ inB b.id.length 1 16 = false := by
    simp only [inB, Bool.and_eq_false_iff, decide_eq_false_iff_not]; omega
  have e5 : 0 ≤ findId R.bs b.id ↔ findId M.bs b.id ≠ -1 := by
    rw [h.bs]
    rcases findId_cases M.bs b.id with ⟨q, _⟩ | ⟨i, _, q, _⟩ <;> rw [q] <;> simp
  have e6 : (R.c.q ≤ (cntP R.bs b.ten : Int)) ↔ M.c.q ≤ (Go.Proofs.YtojpjaifhjigfaaGreatDoor.waits M.bs b.ten : Int) := by
    rw [h.c, h.waits hi]
  unfold Rf.refusal Ag.refusal Ag.misfit
  simp only [e1, e2, e3, e5, e6, hr]
  by_cases a1 : destB M b.dst = false
  · simp [a1]
  by_cases a2 : Maps.has M.D (.string b.ten) = false
  · simp [a1, a2]
  by_cases a3 : inB b.id.length 1 16 = false
  · simp [a1, a2, a3]
  by_cases a4 : 63 < b.body.length
  · simp [a1, a2, a3, a4]
  by_cases a5 : findId M.bs b.id ≠ -1
  · simp [a1, a2, a3, a4, a5]
  by_cases a6 : 120 ≤ M.bs.length
  · simp [a1, a2, a3, a4, a5, a6]
  · simp [a1, a2, a3, a4, a5, a6]
theorem sim_submitted {M : Ag} {R : Rf} {t : Nat} (h : Sim M R) (hi : Inv M t) (b : Bat) : Sim (M.submitted b) (R.submitted b) := by
  unfold Ag.submitted Rf.submitted
  rw [sim_refusal h hi b]
  by_cases h0 : M.refusal b = 0
  · rw [if_pos h0, if_pos h0]
    refine ⟨h.c, h.ns, ?_, h.dead, h.time, h.qs, h.len, h.ls, fun p q r hq hr hst => ?_⟩
    · show (R.rs ++ [_]).map _ = M.bs ++ [_]
      rw [List.map_append]
      congr 1
      exact h.bs
    · have hq' : (M.rt ++ [(⟨M.now, M.c.ba⟩ : Ret)])[p]? = some q := hq
      have hr' : (R.rs ++ [(⟨b.fresh, R.c.ba, 0⟩ : RBat)])[p]? = some r := hr
      have hl : M.rt.length = R.rs.length := by rw [hi.rl, h.rl]
      by_cases hp : p < R.rs.length
      · rw [List.getElem?_append_left (by omega)] at hq' hr'
        exact h.rt p q r hq' hr' hst
      · rw [List.getElem?_append_right (by omega)] at hq' hr'
        have e0 : p - R.rs.length = 0 := by have := (List.getElem?_eq_some_iff.1 hr').1; simp at this; omega
        rw [hl, e0] at hq'
        rw [e0] at hr'
        simp at hq' hr'
        subst hq'
        subst hr'
        exact ⟨h.c ▸ rfl, Or.inr ⟨hi.nw0, Int.le_refl _⟩⟩
  · rw [if_neg h0, if_neg h0]
    exact h

/-! ### Tick -/
def tickB (ms draw : Int) : Bool := decide (0 ≤ ms) && decide (ms ≤ 60000) && decide (0 ≤ draw)
def tickNo (ms draw : Int) : Nat := if tickB ms draw = true then 0 else 10
def Ag.tickOut (M : Ag) (ms draw : Int) : List Sd := if tickB ms draw = true then (M.ticked ms draw).2 else []
def Ag.tickTo (M : Ag) (ms draw : Int) : Ag := if tickB ms draw = true then (M.ticked ms draw).1 else M
def Rf.tickTo (R : Rf) (ms draw : Int) : Rf := if tickB ms draw = true then (R.ticked ms draw).1 else R
theorem tickB_true {ms draw : Int} (h : tickB ms draw = true) : 0 ≤ ms ∧ ms ≤ 60000 ∧ 0 ≤ draw := by simpa [tickB, and_assoc] using h
theorem sim_tickTo {M : Ag} {R : Rf} {t : Nat} {ms draw : Int} (h : Sim M R) (hi : Inv M t) (ht : t + 1 ≤ 10000000000000) : Sim (M.tickTo ms draw) (R.tickTo ms draw) ∧ Inv (M.tickTo ms draw) (t + 1) := by
  unfold Ag.tickTo Rf.tickTo
  by_cases hb : tickB ms draw = true
  · obtain ⟨b1, b2, b3⟩ := tickB_true hb
    rw [if_pos hb, if_pos hb]
    exact ⟨(sim_ticked h hi ht b1 b2 b3).1, hi.ticked ht b1 b2 b3⟩
  · rw [if_neg hb, if_neg hb]
    exact ⟨h, hi.more (by omega)⟩
theorem TickedTo.label {w w' : World} {L : Labs} {who g : Nat} {x : Ag × List Sd} {e : Ending} (h : TickedTo w L who g x e w') (l2 : Lab) :
    ∃ v L2, e = .returned (.tuple #[v, .nilIface]) ∧ RowAt w' L2 l2 68 4 v x.2.length (x.2.flatMap Sd.cells) ∧ AgentAt w' L2 who g x.1 ∧ Step (ofP who) L w L2 w' := by
  obtain ⟨v, L', l', rfl, hr, hn, hf, hA, hs⟩ := h
  classical
  refine ⟨v, fun k => if L' k = l' then l2 else L' k, rfl, hr.shift (fun k hk => by simp [hk]), hA.shift (fun k q hk => ?_), ⟨hs.os, hs.tape, hs.output, hs.size, fun k hk => ?_, hs.block⟩⟩
  · have : L' k ≠ l' := fun e => hn (by rw [← e, hk]; exact ⟨q, rfl⟩)
    simp only [if_neg this]
    exact hk
  · have : L' k ≠ l' := fun e => hf k hk (by rw [← hs.lab k hk]; exact e)
    simp only [if_neg this]
    exact hs.lab k hk
/-- What a Tick leaves, on either side. -/
def LTicked (w : World) (L : Labs) (who g : Nat) (l2 : Lab) (n : Nat) (M : Ag) (out : List Sd) (ev : Value) (e : Ending) (w' : World) : Prop :=
  ∃ v L2, e = .returned (.tuple #[v, ev]) ∧ RowAt w' L2 l2 68 4 v n (out.flatMap Sd.cells) ∧ n = out.length ∧ AgentAt w' L2 who g M ∧ Step (ofP who) L w L2 w'
def RTicked (w : World) (L : Labs) (who g : Nat) (n : Nat) (R : Rf) (out : List Sd) (ev : Value) (e : Ending) (w' : World) : Prop :=
  ∃ v L2 l, e = .returned (.tuple #[v, ev]) ∧ RowAt w' L2 l 68 4 v n (out.flatMap Sd.cells) ∧ RefAt w' L2 who g R ∧ Step (ofP who) L w L2 w'
theorem law_tick (A : Nat → Addr) (L : Labs) (who g t : Nat) (M : Ag) (ms draw : Int) (w : World) (l2 : Lab) (hS : Sents.Holds w 260 gl 11 A) (hA : AgentAt w L who g M) (hi : Inv M t) (ht : t + 1 ≤ 1000000000000) :
    Calls Tryz.prog 30 #[.pointer (some ⟨g, 0, none⟩), .int .i64 ms, .int .i64 draw] w fun e w' => LTicked w L who g l2 (M.tickOut ms draw).length (M.tickTo ms draw) (M.tickOut ms draw) (errV A (tickNo ms draw)) e w' := by
  unfold tickNo Ag.tickOut Ag.tickTo
  by_cases hb : tickB ms draw = true
  · obtain ⟨b1, b2, b3⟩ := tickB_true hb
    rw [if_pos hb, if_pos hb, if_pos hb]
    refine (tick_inv L who g t M ms draw w hA hi ht b1 b2 b3).mono ?_
    intro e w' h
    obtain ⟨v, L2, r1, r2, r3, r4⟩ := h.label l2
    exact ⟨v, L2, r1, r2, rfl, r3, r4⟩
  · rw [if_neg hb, if_neg hb, if_neg hb]
    refine (tick_bad A g ms draw w hS (by
      by_cases h1 : inB ms 0 60000 = false
      · exact Or.inl h1
      · refine Or.inr ?_
        simp only [tickB, Bool.and_eq_true, decide_eq_true_eq] at hb
        simp only [inB, Bool.not_eq_false, Bool.and_eq_true, decide_eq_true_eq] at h1
        omega)).mono ?_
    rintro e w' ⟨rfl, hB⟩
    exact ⟨_, L, rfl, RowAt.nil _ _ _ _ _, rfl, hA.keep (Step.of_below (p := fun _ => False) hB) (fun _ h => h), Step.of_below hB⟩
theorem law_refTick (L : Labs) (who g t : Nat) (M : Ag) (R : Rf) (ms draw : Int) (w : World) (hR : RefAt w L who g R) (hs : Sim M R) (hi : Inv M t) (ht : t + 1 ≤ 1000000000000) :
    Calls Tryz.prog 88 #[.pointer (some ⟨g, 0, none⟩), .int .i64 ms, .int .i64 draw] w fun e w' => RTicked w L who g (M.tickOut ms draw).length (R.tickTo ms draw) (M.tickOut ms draw) (.int .i64 (tickNo ms draw)) e w' := by
  unfold tickNo Ag.tickOut Rf.tickTo
  by_cases hb : tickB ms draw = true
  · obtain ⟨b1, b2, b3⟩ := tickB_true hb
    rw [if_pos hb, if_pos hb, if_pos hb]
    refine (refTick_any L who g M R t ms draw w hR hs hi (by omega) b1 b2 b3).mono ?_
    rintro e w' ⟨l, v, L2, rfl, r2, r3, r4⟩
    rw [(sim_ticked hs hi (by omega) b1 b2 b3).2] at r2
    exact ⟨v, L2, l, rfl, r2, r3, r4⟩
  · rw [if_neg hb, if_neg hb, if_neg hb]
    refine (refTick_bad g ms draw w (by
      simp only [tickB, Bool.and_eq_true, decide_eq_true_eq] at hb
      omega)).mono ?_
    rintro e w' ⟨rfl, rfl⟩
    exact ⟨_, L, none, rfl, RowAt.nil _ _ _ _ _, hR, Step.refl _ _ _⟩

/-! ### Reply -/
def Ag.answered (M : Ag) (R : Rf) (d try' : Int) (good : Bool) (draw : Int) : Ag := if R.stale d try' draw = 0 then M.replied d.toNat good draw else M
theorem stale_zero {R : Rf} {d try' draw : Int} (h : R.stale d try' draw = 0) : 0 ≤ d ∧ d < R.c.d ∧ 0 ≤ draw ∧ ∃ l, R.ls[d.toNat]? = some l ∧ 0 ≤ l.way ∧ l.sends = try' := by
  unfold Rf.stale at h
  by_cases h1 : d < 0 ∨ R.c.d ≤ d
  · rw [if_pos h1] at h; cases h
  · rw [if_neg h1] at h
    by_cases h2 : draw < 0
    · rw [if_pos h2] at h; cases h
    · rw [if_neg h2] at h
      cases hl : R.ls[d.toNat]? with
      | none => rw [hl] at h; cases h
      | some l =>
        rw [hl] at h
        simp only at h
        by_cases h3 : l.way < 0 ∨ l.sends ≠ try'
        · rw [if_pos h3] at h; cases h
        · exact ⟨by omega, by omega, by omega, l, rfl, by omega, Classical.byContradiction fun e => h3 (Or.inr e)⟩
theorem stale_le (R : Rf) (d try' draw : Int) : R.stale d try' draw ≤ 11 := by
  unfold Rf.stale
  split
  · omega
  · split
    · omega
    · split
      · omega
      · split <;> omega
theorem sim_answered {M : Ag} {R : Rf} {t : Nat} {d try' : Int} {good : Bool} {draw : Int} (h : Sim M R) (hi : Inv M t) (ht : t + 1 ≤ 10000000000000) : Sim (M.answered R d try' good draw) (R.answered d try' good draw) ∧ Inv (M.answered R d try' good draw) (t + 1) := by
  unfold Ag.answered Rf.answered
  by_cases h0 : R.stale d try' draw = 0
  · rw [if_pos h0, if_pos h0]
    obtain ⟨a1, a2, a3, l, a4, a5, a6⟩ := stale_zero h0
    obtain ⟨o, ho, hol⟩ := h.line' a4
    have hw : o.way ≠ -1 := by have := hol.way; omega
    exact ⟨(sim_replied h hi (by omega) a3 ho hw good).1, hi.replied ht a3 ho hw good⟩
  · rw [if_neg h0, if_neg h0]
    exact ⟨h, hi.more (by omega)⟩
theorem law_reply (A : Nat → Addr) (L : Labs) (who g t : Nat) (M : Ag) (R : Rf) (d try' : Int) (good : Bool) (draw : Int) (w : World) (hS : Sents.Holds w 260 gl 11 A) (hA : AgentAt w L who g M) (hs : Sim M R) (hi : Inv M t) (ht : t + 1 ≤ 1000000000000) :
    Calls Tryz.prog 31 #[.pointer (some ⟨g, 0, none⟩), .int .i64 d, .int .i64 try', .bool good, .int .i64 draw] w fun e w' => e = .returned (errV A (R.stale d try' draw)) ∧ Turned w L who g (M.answered R d try' good draw) w' := by
  have hno : ∀ (n : Nat) (e : Ending) (w' : World), R.stale d try' draw = n + 1 → e = .returned (ev A n) ∧ Below w.heap.size w w' → e = .returned (errV A (R.stale d try' draw)) ∧ Turned w L who g (M.answered R d try' good draw) w' := fun n e w' hn h => by
    have e2 : M.answered R d try' good draw = M := if_neg (by rw [hn]; omega)
    rw [e2, hn]
    exact ⟨h.1, L, hA.keep (Step.of_below (p := fun _ => False) h.2) (fun _ h => h), Step.of_below h.2⟩
  by_cases h1 : d < 0 ∨ R.c.d ≤ d
  · exact (reply_dest A L who g M d try' good draw w hS hA (by simp only [destB, Bool.and_eq_false_iff, decide_eq_false_iff_not]; rw [← hs.c]; omega)).mono (fun e w' h => hno 2 e w' (by unfold Rf.stale; rw [if_pos h1]) h)
  have hdb : destB M d = true := by simp only [destB, Bool.and_eq_true, decide_eq_true_eq]; rw [← hs.c]; omega
  by_cases h2 : draw < 0
  · exact (reply_range A L who g M d try' good draw w hS hA hdb h2).mono (fun e w' h => hno 9 e w' (by unfold Rf.stale; rw [if_neg h1, if_pos h2]) h)
  obtain ⟨k, rfl⟩ : ∃ k : Nat, d = k := ⟨d.toNat, by omega⟩
  obtain ⟨o, ho⟩ : ∃ o, M.os[k]? = some o := ⟨_, List.getElem?_eq_getElem (by have := hi.ol; rw [← hs.c] at this; omega)⟩
  obtain ⟨l, hl, hol⟩ := hs.line ho
  have hwn : o.way = -1 ∨ 0 ≤ o.way := by
    rcases hi.way k o ho with e | ⟨p, b, e, _⟩
    · exact Or.inl e
    · exact Or.inr (by omega)
  have hstl : R.stale k try' draw = if l.way < 0 ∨ l.sends ≠ try' then 11 else 0 := by
    unfold Rf.stale
    rw [if_neg h1, if_neg h2, Int.toNat_natCast, hl]
  by_cases h3 : l.way < 0 ∨ l.sends ≠ try'
  · refine (reply_stale A L who g k M o try' good draw w hS hA hdb (by omega) ho ?_).mono (fun e w' h => hno 10 e w' (by rw [hstl, if_pos h3]) h)
    rw [hol.way, hol.sends] at h3
    rcases h3 with h3 | h3
    · rw [show o.way = -1 by omega]; rfl
    · rw [Bool.and_eq_false_iff]; exact Or.inr (by simpa using h3)
  · have h0 : R.stale k try' draw = 0 := by rw [hstl, if_neg h3]
    have e2 : M.answered R k try' good draw = M.replied k good draw := by unfold Ag.answered; rw [if_pos h0, Int.toNat_natCast]
    rw [h0, e2]
    have htr : o.sends = try' := Classical.byContradiction fun e => h3 (Or.inr (by rw [hol.sends]; exact e))
    rw [← htr]
    exact reply_inv L who g t k M o good draw w hA hi ht (by omega) ho (by have := hol.way; omega)
end Go.Proofs.YtojpjaifhjigfaaGreatDoor

/- The law's world: its pairs, its book. -/
namespace Go.Proofs.YtojpjaifhjigfaaGreatDoor
open Go.RowKit Go.Maps

/-- A pair in memory. -/
def PairAt (w : World) (L : Labs) (i gp t : Nat) (M : Ag) (R : Rf) : Prop := ∃ gx gy c m sv lg, BlkAt w L (bl 8 i) gp (prCells gx gy c m sv lg) 102 ∧ AgentAt w L (2 * i + 1) gx M ∧ RefAt w L (2 * i + 2) gy R ∧ Sim M R ∧ Inv M t
theorem PairAt.keep {w w' : World} {L L' : Labs} {i gp t t' : Nat} {M : Ag} {R : Rf} (h : PairAt w L i gp t M R) {p : Lab → Prop} (s : Step p L w L' w') (h8 : ¬ p (bl 8 i)) (h1 : ∀ q, ¬ p (some (2 * i + 1, q))) (h2 : ∀ q, ¬ p (some (2 * i + 2, q))) (ht : t ≤ t') : PairAt w' L' i gp t' M R := by
  obtain ⟨gx, gy, c, m, sv, lg, q1, q2, q3, q4, q5⟩ := h
  exact ⟨gx, gy, c, m, sv, lg, q1.keep s h8, q2.keep s h1, q3.keep s h2, q4, q5.more ht⟩

/-- What stands in the world's cells. -/
structure WS where
  pv : Value
  tv : Value
  sv : Value
  mv : Value
  np : Nat
  nt : Nat
  ns : Nat
  nm : Nat
  t : Nat
  ps : List Value

/-- The world. -/
structure WAt (w : World) (L : Labs) (gw : Nat) (A : Nat → Addr) (cur : Array Value) (X : WS) : Prop where
  blk : BlkAt w L (bl 2 0) gw cur 38
  c22 : cur[22]? = some X.pv
  c23 : cur[23]? = some X.tv
  c24 : cur[24]? = some X.sv
  c25 : cur[25]? = some X.mv
  prs : RowAt w L (bl 7 0) 97 1 X.pv X.np X.ps
  pr : ∀ (i : Nat) (v : Value), X.ps[i]? = some v → ∃ gp M R, v = .pointer (some ⟨gp, 0, none⟩) ∧ PairAt w L i gp X.t M R
  txt : TextsAt w L X.tv X.nt
  snd : SendsAt w L X.sv X.ns
  mps : MapsAt w L X.mv X.nm
  err : ErrsAt w L A

theorem WAt.text {w w' : World} {L L' : Labs} {gw : Nat} {A : Nat → Addr} {cur : Array Value} {X : WS} {tv' : Value} {nt' k : Nat} (h : WAt w L gw A cur X) (hb : BlkAt w' L' (bl 2 0) gw (cur.setIfInBounds 23 tv') 38) (ht : TextsAt w' L' tv' nt') (s : Step (wdP k) L w L' w') :
    WAt w' L' gw A (cur.setIfInBounds 23 tv') { X with tv := tv', nt := nt' } := by
  have hl := (Array.getElem?_eq_some_iff.1 h.c23).1
  refine ⟨hb, by rw [Array.getElem?_setIfInBounds_ne (by omega)]; exact h.c22, by simp [hl], by rw [Array.getElem?_setIfInBounds_ne (by omega)]; exact h.c24, by rw [Array.getElem?_setIfInBounds_ne (by omega)]; exact h.c25,
    h.prs.keep s (by simp [wdP, bl]), fun i v hv => ?_, ht, h.snd.keep s (by simp [wdP, bl]) (fun i _ => by simp [wdP, bl]), h.mps.keep s (by simp [wdP, bl]) (fun i _ => by simp [wdP, bl]), h.err.keep s (by simp [wdP])⟩
  obtain ⟨gp, M, R, h1, h2⟩ := h.pr i v hv
  exact ⟨gp, M, R, h1, h2.keep s (by simp [wdP, bl]) (fun q => by simp [wdP, bl]) (fun q => by simp [wdP, bl]) (Nat.le_refl _)⟩
theorem WAt.send {w w' : World} {L L' : Labs} {gw : Nat} {A : Nat → Addr} {cur : Array Value} {X : WS} {sv' : Value} {ns' k : Nat} (h : WAt w L gw A cur X) (hb : BlkAt w' L' (bl 2 0) gw (cur.setIfInBounds 24 sv') 38) (ht : SendsAt w' L' sv' ns') (s : Step (ksP k) L w L' w') :
    WAt w' L' gw A (cur.setIfInBounds 24 sv') { X with sv := sv', ns := ns' } := by
  have hl := (Array.getElem?_eq_some_iff.1 h.c24).1
  refine ⟨hb, by rw [Array.getElem?_setIfInBounds_ne (by omega)]; exact h.c22, by rw [Array.getElem?_setIfInBounds_ne (by omega)]; exact h.c23, by simp [hl], by rw [Array.getElem?_setIfInBounds_ne (by omega)]; exact h.c25,
    h.prs.keep s (by simp [ksP, bl]), fun i v hv => ?_, h.txt.keep s (by simp [ksP, bl]) (fun i _ => by simp [ksP, bl]), ht, h.mps.keep s (by simp [ksP, bl]) (fun i _ => by simp [ksP, bl]), h.err.keep s (by simp [ksP])⟩
  obtain ⟨gp, M, R, h1, h2⟩ := h.pr i v hv
  exact ⟨gp, M, R, h1, h2.keep s (by simp [ksP, bl]) (fun q => by simp [ksP, bl]) (fun q => by simp [ksP, bl]) (Nat.le_refl _)⟩
theorem WAt.map {w w' : World} {L L' : Labs} {gw : Nat} {A : Nat → Addr} {cur : Array Value} {X : WS} {mv' : Value} {nm' k : Nat} (h : WAt w L gw A cur X) (hb : BlkAt w' L' (bl 2 0) gw (cur.setIfInBounds 25 mv') 38) (ht : MapsAt w' L' mv' nm') (s : Step (wwP k) L w L' w') :
    WAt w' L' gw A (cur.setIfInBounds 25 mv') { X with mv := mv', nm := nm' } := by
  have hl := (Array.getElem?_eq_some_iff.1 h.c25).1
  refine ⟨hb, by rw [Array.getElem?_setIfInBounds_ne (by omega)]; exact h.c22, by rw [Array.getElem?_setIfInBounds_ne (by omega)]; exact h.c23, by rw [Array.getElem?_setIfInBounds_ne (by omega)]; exact h.c24, by simp [hl],
    h.prs.keep s (by simp [wwP, bl]), fun i v hv => ?_, h.txt.keep s (by simp [wwP, bl]) (fun i _ => by simp [wwP, bl]), h.snd.keep s (by simp [wwP, bl]) (fun i _ => by simp [wwP, bl]), ht, h.err.keep s (by simp [wwP])⟩
  obtain ⟨gp, M, R, h1, h2⟩ := h.pr i v hv
  exact ⟨gp, M, R, h1, h2.keep s (by simp [wwP, bl]) (fun q => by simp [wwP, bl]) (fun q => by simp [wwP, bl]) (Nat.le_refl _)⟩
theorem WAt.step {w w' : World} {L L' : Labs} {gw : Nat} {A : Nat → Addr} {cur : Array Value} {X : WS} (h : WAt w L gw A cur X) (s : Step (fun _ => False) L w L' w') : WAt w' L' gw A cur X := by
  refine ⟨h.blk.keep s (fun h => h), h.c22, h.c23, h.c24, h.c25, h.prs.keep s (fun h => h), fun i v hv => ?_, h.txt.keep s (fun h => h) (fun _ _ h => h), h.snd.keep s (fun h => h) (fun _ _ h => h), h.mps.keep s (fun h => h) (fun _ _ h => h), h.err.keep s (fun h => h)⟩
  obtain ⟨gp, M, R, h1, h2⟩ := h.pr i v hv
  exact ⟨gp, M, R, h1, h2.keep s (fun h => h) (fun _ h => h) (fun _ h => h) (Nat.le_refl _)⟩
theorem WAt.below {w w' : World} {L : Labs} {gw : Nat} {A : Nat → Addr} {cur : Array Value} {X : WS} (h : WAt w L gw A cur X) (hb : Below w.heap.size w w') : WAt w' L gw A cur X := h.step (Step.of_below hb)
theorem WAt.later {w : World} {L : Labs} {gw : Nat} {A : Nat → Addr} {cur : Array Value} {X : WS} (h : WAt w L gw A cur X) (t' : Nat) (ht : X.t ≤ t') : WAt w L gw A cur { X with t := t' } := by
  refine ⟨h.blk, h.c22, h.c23, h.c24, h.c25, h.prs, fun i v hv => ?_, h.txt, h.snd, h.mps, h.err⟩
  obtain ⟨gp, M, R, h1, h2⟩ := h.pr i v hv
  exact ⟨gp, M, R, h1, h2.keep (Step.refl (fun _ => False) L w) (fun h => h) (fun _ h => h) (fun _ h => h) ht⟩

/-- The agents of one pair have turned. -/
theorem WAt.agents {w w' : World} {L L' : Labs} {gw : Nat} {A : Nat → Addr} {cur : Array Value} {X : WS} (h : WAt w L gw A cur X) {i gp gx gy t' : Nat} {c : Cfg} {m : Option Nat} {sv lg : Value} {M : Ag} {R : Rf}
    (hv : X.ps[i]? = some (.pointer (some ⟨gp, 0, none⟩))) (hB : BlkAt w L (bl 8 i) gp (prCells gx gy c m sv lg) 102) (hA : AgentAt w' L' (2 * i + 1) gx M) (hR : RefAt w' L' (2 * i + 2) gy R) (hS : Sim M R) (hI : Inv M t') (ht : X.t ≤ t')
    (s : Step (fun l => ofP (2 * i + 1) l ∨ ofP (2 * i + 2) l) L w L' w') : WAt w' L' gw A cur { X with t := t' } := by
  have n0 : ∀ q, ¬ (ofP (2 * i + 1) (some (0, q)) ∨ ofP (2 * i + 2) (some (0, q))) := fun q h => by
    rcases h with h | h
    · exact not_ofP (by omega) q h
    · exact not_ofP (by omega) q h
  have nn : ¬ (ofP (2 * i + 1) none ∨ ofP (2 * i + 2) none) := fun h => by
    rcases h with ⟨q, h⟩ | ⟨q, h⟩ <;> cases h
  refine ⟨h.blk.keep s (n0 _), h.c22, h.c23, h.c24, h.c25, h.prs.keep s (n0 _), fun j v hj => ?_, h.txt.keep s (n0 _) (fun _ _ => n0 _), h.snd.keep s (n0 _) (fun _ _ => n0 _), h.mps.keep s (n0 _) (fun _ _ => n0 _), h.err.keep s nn⟩
  by_cases e : j = i
  · subst e
    have hj' : X.ps[j]? = some v := hj
    rw [hv] at hj'
    cases hj'
    exact ⟨gp, M, R, rfl, gx, gy, c, m, sv, lg, hB.keep s (n0 _), hA, hR, hS, hI⟩
  · obtain ⟨gp', M', R', e', hP⟩ := h.pr j v hj
    refine ⟨gp', M', R', e', hP.keep s (n0 _) (fun q h => ?_) (fun q h => ?_) ht⟩
    · rcases h with h | h
      · exact not_ofP (by omega) q h
      · exact not_ofP (by omega) q h
    · rcases h with h | h
      · exact not_ofP (by omega) q h
      · exact not_ofP (by omega) q h
end Go.Proofs.YtojpjaifhjigfaaGreatDoor

/- (*World).asked: all of all agents. -/
namespace Go.Proofs.YtojpjaifhjigfaaGreatDoor
open Go.RowKit Go.Maps

/-- What is labelled. -/
def someP : Lab → Prop := fun l => l ≠ none

set_option maxRecDepth 100000 in
set_option maxHeartbeats 2000000 in
theorem asked_core (L : Labs) (gw : Nat) (A : Nat → Addr) (cur : Array Value) (pv tv sv mv : Value) (np nt ns nm tt : Nat) (ps : List Value) (w : World) (h : WAt w L gw A cur ⟨pv, tv, sv, mv, np, nt, ns, nm, tt, ps⟩) (h4 : nt % 4 = 0) (hn : nt + 8 * np ≤ 8000000) (hns : ns ≤ 8000000) (hm : nm + 2 * np ≤ 8000000) :
    Calls Tryz.prog 17 #[.pointer (some ⟨gw, 0, none⟩)] w fun e w' => e = .returned (.bool true) ∧ ∃ L', Step someP L w L' w' := by
  obtain ⟨pa, pk, e, _⟩ := h.prs.shape
  dsimp only at e
  subst e
  have hpl : ps.length = np := by have := h.prs.1.1; simp only at this; omega
  have H := hide h
  clear h
  go_enter Tryz.func17, Tryz.ntmps17
  go_wp2_with fail
  go_loopw [3] (fun i wr => ∃ (t : Nat) (L1 : Labs) (cur1 : Array Value) (tv1 mv1 : Value), t ≤ np ∧ i = .int .i64 t ∧ WAt wr L1 gw A cur1 ⟨.slice pa np pk, tv1, sv, mv1, np, nt + 8 * t, ns, nm + 2 * t, tt, ps⟩ ∧ Step someP L w L1 wr) (fun i _ => np - (intOf i).toNat)
  case atStart => exact ⟨0, L, cur, tv, mv, Nat.zero_le _, rfl, H.out, Step.refl _ _ _⟩
  case round =>
    obtain ⟨t, L1, cur1, tv1, mv1, ht, rfl, hW, hS⟩ := hrel
    have HW := hide hW
    have HS := hide hS
    have a22 : wr.cell? ⟨gw, 22, none⟩ = some (.slice pa np pk) := (hW.blk.1.cell 22).trans hW.c22
    clear hW hS
    by_cases hlt : t < np
    · have hltI : (t : Int) < (np : Int) := by omega
      obtain ⟨gr, rfl, hgr, _, hcell, _⟩ := HW.out.prs.head (by omega)
      obtain ⟨v, hv⟩ : ∃ v, ps[t]? = some v := ⟨_, List.getElem?_eq_getElem (by omega)⟩
      obtain ⟨gp, M, R, rfl, hP⟩ := HW.out.pr t v hv
      have hct := hcell t _ hv
      have HP := hide hP
      have Hv := hide hv
      clear hcell hP hv
      obtain ⟨gx, gy, c, m, sv0, lg, hpb, hA, hR, hSim, hInv⟩ := HP.out
      have HInv := hide hInv
      have HSim := hide hSim
      have HD := hide (wDead_any L1 gw gp gx gy (2 * t + 1) (2 * t + 2) (nt + 8 * t) tv1 cur1 M R wr HW.out.blk HW.out.c23 HW.out.txt (by omega) (by omega) (hpb.1.cell 0) (hpb.1.cell 1) hA hR hInv.dead_lt hSim.dead hSim.bs hInv.b120 hInv.dead_le)
      clear hpb hA hR hSim hInv
      go_wp2_with fail
      refine HD.out.mono ?_
      rintro e w1 ⟨rfl, L2, tv2, hK2, hT2, hS2⟩
      have hW2 := HW.out.text hK2 hT2 hS2
      have HS2 : Hid (Step someP L w L2 w1) := HS.out.trans (hS2.mono (fun l h => by rcases h with ⟨j, _, rfl⟩ | rfl | rfl <;> simp [someP, bl]))
      have HW2 := hide hW2
      have hP2 : PairAt w1 L2 t gp tt M R := HP.out.keep hS2 (by simp [wdP, bl]) (fun q => by simp [wdP, bl]) (fun q => by simp [wdP, bl]) (Nat.le_refl _)
      obtain ⟨gx2, gy2, c2, m2, sv2, lg2, hpb2, hA2, hR2, _, _⟩ := hP2
      have HDw := hide (wWaiting_any L2 gw gp gx2 gy2 (2 * t + 1) (2 * t + 2) (nm + 2 * t) mv1 _ M R w1 HW2.out.blk HW2.out.c25 HW2.out.mps (by omega) (hpb2.1.cell 0) (hpb2.1.cell 1) hA2 hR2 HInv.out.b120 (HSim.out.r120 HInv.out) (by rw [HSim.out.ns]; have := HInv.out.nl; omega) (HSim.out.waits HInv.out) (by rw [HSim.out.ns]; exact HInv.out.nd) (HSim.out.inNs HInv.out) (fun x hx => by rw [HSim.out.ns] at hx; have := (HInv.out.sl x hx).2; unfold maxLen; omega))
      have HP2 := hide (show PairAt w1 L2 t gp tt M R from ⟨gx2, gy2, c2, m2, sv2, lg2, hpb2, hA2, hR2, HSim.out, HInv.out⟩)
      clear hK2 hT2 hS2 hW2 hpb2 hA2 hR2 HD
      go_wp2_with fail
      refine HDw.out.mono ?_
      rintro e w2 ⟨rfl, L3, mv3, hK3, hT3, hS3⟩
      have HW3 := hide (HW2.out.map hK3 hT3 hS3)
      have HS3 : Hid (Step someP L w L3 w2) := HS2.out.trans (hS3.mono (fun l h => by rcases h with ⟨j, _, rfl⟩ | rfl | rfl <;> simp [someP, bl]))
      obtain ⟨gx3, gy3, c3, m3, sv3, lg3, hpb3, hA3, hR3, _, _⟩ := HP2.out.keep hS3 (by simp [wwP, bl]) (fun q => by simp [wwP, bl]) (fun q => by simp [wwP, bl]) (Nat.le_refl _)
      have HA3 := hide hA3
      have HR3 := hide hR3
      have HE3 := hide (HW3.out.err.hs)
      obtain ⟨nv3, qv3, bv3, dv3, la3, lk3, hrf⟩ := hR3
      obtain ⟨ba, bc, rfl, _⟩ := hrf.tk.shape
      have P0 : Hid (w2.cell? ⟨gp, 0, none⟩ = some (.pointer (some ⟨gx3, 0, none⟩))) := hpb3.1.cell 0
      have P1 : Hid (w2.cell? ⟨gp, 1, none⟩ = some (.pointer (some ⟨gy3, 0, none⟩))) := hpb3.1.cell 1
      have C13 : Hid (w2.cell? ⟨gy3, 13, none⟩ = some (.slice ba R.rs.length bc)) := hrf.blk.1.cell 13
      have HTk := hide hrf.tk
      have hgpl := hpb3.1.lt
      have hgyl := hrf.blk.1.lt
      have hr120 : R.rs.length ≤ 120 := HSim.out.r120 HInv.out
      clear hK3 hT3 hS3 hpb3 hA3 hrf HDw
      go_wp2_with fail
      go_loopw [7, 8] (fun q _ wq => ∃ j : Nat, j ≤ R.rs.length ∧ q = .int .i64 j ∧ Below w2.heap.size w2 wq) (fun q _ _ => R.rs.length - (intOf q).toNat)
      case atStart => exact ⟨0, Nat.zero_le _, rfl, Below.refl _ _⟩
      case round =>
        obtain ⟨j, hj, rfl, hnx⟩ := hrel
        have Hnx := hide hnx
        have p1 : wr.cell? ⟨gp, 1, none⟩ = some (.pointer (some ⟨gy3, 0, none⟩)) := (hnx.cell (p := ⟨gp, 1, none⟩) hgpl).trans P1.out
        have c13 : wr.cell? ⟨gy3, 13, none⟩ = some (.slice ba R.rs.length bc) := (hnx.cell (p := ⟨gy3, 13, none⟩) hgyl).trans C13.out
        clear hnx
        by_cases hjl : j < R.rs.length
        · have hjI : (j : Int) < (R.rs.length : Int) := by omega
          obtain ⟨gb, rfl, hgb, _, hcb, _⟩ := HTk.out.head (by omega)
          obtain ⟨r, hr⟩ : ∃ r, R.rs[j]? = some r := ⟨_, List.getElem?_eq_getElem hjl⟩
          have e2 : wr.cell? ⟨gb, j * 8 + 2, none⟩ = some (encStr r.b.id) := (Hnx.out.cell (p := ⟨gb, _, none⟩) hgb).trans (hcb _ _ (RBat.cell hr (by omega) rfl))
          have HSt := hide (pStatus_any A L3 gp gx3 gy3 (2 * t + 1) (2 * t + 2) M R r.b.id wr (HE3.out.below Hnx.out) ((Hnx.out.cell (p := ⟨gp, 0, none⟩) hgpl).trans P0.out) p1 (HA3.out.keep (Step.of_below (p := fun _ => False) Hnx.out) (fun _ h => h)) (HR3.out.keep (Step.of_below (p := fun _ => False) Hnx.out) (fun _ h => h)) HInv.out.b120 HSim.out.bs)
          clear hcb hr
          go_wp2_with fail
          refine HSt.out.mono ?_
          rintro e w5 ⟨rfl, hb5⟩
          have HB5 : Hid (Below w2.heap.size w2 w5) := Hnx.out.trans (hb5.mono Hnx.out.size)
          clear hb5
          go_wp2_with fail
          go_roundw
          case rel => exact ⟨j + 1, by omega, by go_num, HB5.out⟩
          case measure => simp [intOf]; omega
        · go_wp2_with fail
          go_roundw
          case rel => exact ⟨t + 1, L3, _, tv2, mv3, by omega, by go_num, (HW3.out.below Hnx.out), HS3.out.trans (Step.of_below Hnx.out)⟩
          case measure => simp [intOf]; omega
    · have HF := hide (wholeS_any L1 gw (nt + 8 * t) ns (nm + 2 * t) tv1 sv mv1 cur1 wr HW.out.blk HW.out.c23 HW.out.c24 HW.out.c25 HW.out.txt HW.out.snd HW.out.mps (by omega) (by omega) (by omega))
      go_wp2_with fail
      refine HF.out.mono ?_
      rintro e w1 ⟨rfl, hb1⟩
      have HS1 : Hid (Step someP L w L1 w1) := HS.out.trans (Step.of_below hb1)
      clear hb1
      go_wp2_with fail
      go_ret
      exact ⟨rfl, L1, HS1.out⟩
theorem asked_any (L : Labs) (gw : Nat) (A : Nat → Addr) (cur : Array Value) (X : WS) (w : World) (h : WAt w L gw A cur X) (h4 : X.nt % 4 = 0) (hn : X.nt + 8 * X.np ≤ 8000000) (hns : X.ns ≤ 8000000) (hm : X.nm + 2 * X.np ≤ 8000000) :
    Calls Tryz.prog 17 #[.pointer (some ⟨gw, 0, none⟩)] w fun e w' => e = .returned (.bool true) ∧ ∃ L', Step someP L w L' w' := asked_core L gw A cur X.pv X.tv X.sv X.mv X.np X.nt X.ns X.nm X.t X.ps w h h4 hn hns hm
end Go.Proofs.YtojpjaifhjigfaaGreatDoor
