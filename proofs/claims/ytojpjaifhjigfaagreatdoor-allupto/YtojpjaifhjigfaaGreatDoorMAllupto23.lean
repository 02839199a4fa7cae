/- Steps of the proof (several texts in one): LawCalls, Reader, Reader2. -/
import Derived.Test.YtojpjaifhjigfaaGreatDoorMAllupto20
import Derived.Test.YtojpjaifhjigfaaGreatDoorMAllupto21
import Derived.Test.YtojpjaifhjigfaaGreatDoorMAllupto17
import Derived.Test.YtojpjaifhjigfaaGreatDoorMAllupto22
import Derived.Test.YtojpjaifhjigfaaGreatDoorMAllupto13
import Derived.Laws.Strings2

/- The calls of a pair: what the program's agent and the document's answer, side by side. -/
namespace Go.Proofs.YtojpjaifhjigfaaGreatDoor
open Go.RowKit Go.Maps

/-! ### Labels said otherwise -/
theorem BlkAt.shift {w : World} {L L' : Labs} {l l' : Lab} {g : Nat} {cur : Array Value} {e : TypeId} (h : BlkAt w L l g cur e) (r : ∀ k, L k = l → L' k = l') : BlkAt w L' l' g cur e := ⟨h.1, r _ h.2⟩
theorem RowAt.shift {w : World} {L L' : Labs} {l l' : Lab} {e : TypeId} {size : Nat} {v : Value} {n : Nat} {xs : List Value} (h : RowAt w L l e size v n xs) (r : ∀ k, L k = l → L' k = l') : RowAt w L' l' e size v n xs := ⟨h.1, fun g hg => r _ (h.2 g hg)⟩
theorem OMapAt.shift {H : Type} {w : World} {L L' : Labs} {l l' : Lab} {P : Program} {k : TypeId} {R : Value → Option (DataW H × List MemPlace)} {b n : Nat} {D : DataW H} (h : OMapAt w L l P k R b n D) (r : ∀ k, L k = l → L' k = l') : OMapAt w L' l' P k R b n D := ⟨h.1, r _ h.2⟩
/-- What was who's is now who''s. -/
def Shift (who who' : Nat) (L L' : Labs) : Prop := ∀ k q, L k = some (who, q) → L' k = some (who', q)
theorem AgentAt.shift {w : World} {L L' : Labs} {who who' g : Nat} {M : Ag} (h : AgentAt w L who g M) (r : Shift who who' L L') : AgentAt w L' who' g M := by
  obtain ⟨bq, bm, cn, tv, dv, nv, rv, ov, h⟩ := h
  obtain ⟨D, q1, q2, q3, q4, q5⟩ := h.qs
  obtain ⟨fs, o1, o2, o3⟩ := h.ol
  refine ⟨bq, bm, cn, tv, dv, nv, rv, ov, h.blk.shift (fun k => r k _), h.tk.shift (fun k => r k _), ⟨D, q1.shift (fun k => r k _), q2, q3, q4, fun d t hl => (q5 d t hl).shift (fun k => r k _)⟩, h.dd.shift (fun k => r k _), h.nm.shift (fun k => r k _), h.rt.shift (fun k => r k _), ⟨fs, o1, o2.shift (fun k => r k _), fun i o f hi hf => ?_⟩, h.cm.shift (fun k => r k _)⟩
  obtain ⟨g1, a1, a2, a3⟩ := o3 i o f hi hf
  exact ⟨g1, a1, a2.shift (fun k => r k _), a3.shift (fun k => r k _)⟩
theorem RefAt.shift {w : World} {L L' : Labs} {who who' g : Nat} {R : Rf} (h : RefAt w L who g R) (r : Shift who who' L L') : RefAt w L' who' g R := by
  obtain ⟨nv, qv, bv, dv, la, lk, h⟩ := h
  obtain ⟨fs, o1, o2, o3⟩ := h.ll
  exact ⟨nv, qv, bv, dv, la, lk, h.blk.shift (fun k => r k _), h.nm.shift (fun k => r k _), h.tk.shift (fun k => r k _), h.dd.shift (fun k => r k _), h.qu.shift (fun k => r k _), ⟨fs, o1, o2.shift (fun k => r k _), fun i o f hi hf => (o3 i o f hi hf).shift (fun k => r k _)⟩, h.ln⟩

/-! ### What the two agents hold alike -/
theorem cntP_snoc (bs : List Bat) (b : Bat) (t : List UInt8) : cntP (bs ++ [b]) t = cntP bs t + (if decide (b.ten = t) && decide (b.st = 1) then 1 else 0) := by
  unfold cntP
  rw [List.filter_append, List.length_append]
  congr 1
  simp only [List.filter_cons, List.filter_nil]
  by_cases ht : b.ten = t <;> by_cases hs : b.st = 1 <;> simp [ht, hs]
theorem waits_eq (bs : List Bat) (t : List UInt8) : (∀ b ∈ bs, 0 ≤ b.dst ∧ b.dst < 4) → waits bs t = cntP bs t := by
  refine snoc_ind (P := fun bs => (∀ b ∈ bs, 0 ≤ b.dst ∧ b.dst < 4) → waits bs t = cntP bs t) (fun _ => rfl) (fun l b ih h => ?_) bs
  · have hb := h b (by simp)
    rw [waits_snoc l b hb.1 hb.2, cntP_snoc, ih (fun x hx => h x (by simp [hx]))]
theorem Sim.waits {M : Ag} {R : Rf} {t : Nat} (h : Sim M R) (hi : Inv M t) (x : List UInt8) : waits M.bs x = cntP R.bs x := by
  rw [h.bs]
  have hd := Cfg.num_d hi.good.1
  exact waits_eq M.bs x (fun b hb => ⟨(hi.each b hb).1, by have := (hi.each b hb).2.1; omega⟩)
theorem Sim.inNs {M : Ag} {R : Rf} {t : Nat} (h : Sim M R) (hi : Inv M t) (x : List UInt8) (hx : 0 < cntP R.bs x) : x ∈ R.ns := by
  rw [h.bs] at hx
  unfold cntP at hx
  obtain ⟨b, hb⟩ := List.exists_mem_of_length_pos hx
  rw [List.mem_filter] at hb
  have e : b.ten = x := by have := hb.2; simp at this; exact this.1
  rw [← e, h.ns]
  exact (hi.each b hb.1).2.2.1
theorem Inv.dead_lt {M : Ag} {t : Nat} (h : Inv M t) : ∀ p ∈ M.dead, p < M.bs.length := fun p hp => by
  obtain ⟨b, hb, _⟩ := (h.dead p).1 hp
  exact (List.getElem?_eq_some_iff.1 hb).1
theorem Sim.r120 {M : Ag} {R : Rf} {t : Nat} (h : Sim M R) (hi : Inv M t) : R.rs.length ≤ 120 := by rw [h.rl]; exact hi.b120
theorem sim_refusal {M : Ag} {R : Rf} {t : Nat} (h : Sim M R) (hi : Inv M t) (b : Bat) : R.refusal b = M.refusal b := by
  have hr := h.rl
  have e1 : (¬ (0 ≤ b.dst ∧ b.dst < R.c.d)) ↔ destB M b.dst = false := by
    rw [h.c]; simp [destB]
  have e2 : findN R.ns b.ten < 0 ↔ Maps.has M.D (.string b.ten) = false := by
    rw [findN_neg, h.ns, hi.hs]; simp
  have e3 : (b.id.length < 1 ∨ 16 < b.id.length) ↔ inB b.id.length 1 16 = false := by
    simp only [inB, Bool.and_eq_false_iff, decide_eq_false_iff_not]; omega
  have e5 : 0 ≤ findId R.bs b.id ↔ findId M.bs b.id ≠ -1 := by
    rw [h.bs]
    rcases findId_cases M.bs b.id with ⟨q, _⟩ | ⟨i, _, q, _⟩ <;> rw [q] <;> simp
  have e6 : (R.c.q ≤ (cntP R.bs b.ten : Int)) ↔ M.c.q ≤ (Go.Proofs.YtojpjaifhjigfaaGreatDoor.waits M.bs b.ten : Int) := by
    rw [h.c, h.waits hi]
  unfold Rf.refusal Ag.refusal Ag.misfit
  simp only [e1, e2, e3, e5, e6, hr]
  by_cases a1 : destB M b.dst = false
  · simp [a1]
  by_cases a2 : Maps.has M.D (.string b.ten) = false
  · simp [a1, a2]
  by_cases a3 : inB b.id.length 1 16 = false
  · simp [a1, a2, a3]
  by_cases a4 : 63 < b.body.length
  · simp [a1, a2, a3, a4]
  by_cases a5 : findId M.bs b.id ≠ -1
  · simp [a1, a2, a3, a4, a5]
  by_cases a6 : 120 ≤ M.bs.length
  · simp [a1, a2, a3, a4, a5, a6]
  · simp [a1, a2, a3, a4, a5, a6]
theorem sim_submitted {M : Ag} {R : Rf} {t : Nat} (h : Sim M R) (hi : Inv M t) (b : Bat) : Sim (M.submitted b) (R.submitted b) := by
  unfold Ag.submitted Rf.submitted
  rw [sim_refusal h hi b]
  by_cases h0 : M.refusal b = 0
  · rw [if_pos h0, if_pos h0]
    refine ⟨h.c, h.ns, ?_, h.dead, h.time, h.qs, h.len, h.ls, fun p q r hq hr hst => ?_⟩
    · show (R.rs ++ [_]).map _ = M.bs ++ [_]
      rw [List.map_append]
      congr 1
      exact h.bs
    · have hq' : (M.rt ++ [(⟨M.now, M.c.ba⟩ : Ret)])[p]? = some q := hq
      have hr' : (R.rs ++ [(⟨b.fresh, R.c.ba, 0⟩ : RBat)])[p]? = some r := hr
      have hl : M.rt.length = R.rs.length := by rw [hi.rl, h.rl]
      by_cases hp : p < R.rs.length
      · rw [List.getElem?_append_left (by omega)] at hq' hr'
        exact h.rt p q r hq' hr' hst
      · rw [List.getElem?_append_right (by omega)] at hq' hr'
        have e0 : p - R.rs.length = 0 := by have := (List.getElem?_eq_some_iff.1 hr').1; simp at this; omega
        rw [hl, e0] at hq'
        rw [e0] at hr'
        simp at hq' hr'
        subst hq'
        subst hr'
        exact ⟨h.c ▸ rfl, Or.inr ⟨hi.nw0, Int.le_refl _⟩⟩
  · rw [if_neg h0, if_neg h0]
    exact h

/-! ### Tick -/
def tickB (ms draw : Int) : Bool := decide (0 ≤ ms) && decide (ms ≤ 60000) && decide (0 ≤ draw)
def tickNo (ms draw : Int) : Nat := if tickB ms draw = true then 0 else 10
def Ag.tickOut (M : Ag) (ms draw : Int) : List Sd := if tickB ms draw = true then (M.ticked ms draw).2 else []
def Ag.tickTo (M : Ag) (ms draw : Int) : Ag := if tickB ms draw = true then (M.ticked ms draw).1 else M
def Rf.tickTo (R : Rf) (ms draw : Int) : Rf := if tickB ms draw = true then (R.ticked ms draw).1 else R
theorem tickB_true {ms draw : Int} (h : tickB ms draw = true) : 0 ≤ ms ∧ ms ≤ 60000 ∧ 0 ≤ draw := by simpa [tickB, and_assoc] using h
theorem sim_tickTo {M : Ag} {R : Rf} {t : Nat} {ms draw : Int} (h : Sim M R) (hi : Inv M t) (ht : t + 1 ≤ 10000000000000) : Sim (M.tickTo ms draw) (R.tickTo ms draw) ∧ Inv (M.tickTo ms draw) (t + 1) := by
  unfold Ag.tickTo Rf.tickTo
  by_cases hb : tickB ms draw = true
  · obtain ⟨b1, b2, b3⟩ := tickB_true hb
    rw [if_pos hb, if_pos hb]
    exact ⟨(sim_ticked h hi ht b1 b2 b3).1, hi.ticked ht b1 b2 b3⟩
  · rw [if_neg hb, if_neg hb]
    exact ⟨h, hi.more (by omega)⟩
theorem TickedTo.label {w w' : World} {L : Labs} {who g : Nat} {x : Ag × List Sd} {e : Ending} (h : TickedTo w L who g x e w') (l2 : Lab) :
    ∃ v L2, e = .returned (.tuple #[v, .nilIface]) ∧ RowAt w' L2 l2 68 4 v x.2.length (x.2.flatMap Sd.cells) ∧ AgentAt w' L2 who g x.1 ∧ Step (ofP who) L w L2 w' := by
  obtain ⟨v, L', l', rfl, hr, hn, hf, hA, hs⟩ := h
  classical
  refine ⟨v, fun k => if L' k = l' then l2 else L' k, rfl, hr.shift (fun k hk => by simp [hk]), hA.shift (fun k q hk => ?_), ⟨hs.os, hs.tape, hs.output, hs.size, fun k hk => ?_, hs.block⟩⟩
  · have : L' k ≠ l' := fun e => hn (by rw [← e, hk]; exact ⟨q, rfl⟩)
    simp only [if_neg this]
    exact hk
  · have : L' k ≠ l' := fun e => hf k hk (by rw [← hs.lab k hk]; exact e)
    simp only [if_neg this]
    exact hs.lab k hk
/-- What a Tick leaves, on either side. -/
def LTicked (w : World) (L : Labs) (who g : Nat) (l2 : Lab) (n : Nat) (M : Ag) (out : List Sd) (ev : Value) (e : Ending) (w' : World) : Prop :=
  ∃ v L2, e = .returned (.tuple #[v, ev]) ∧ RowAt w' L2 l2 68 4 v n (out.flatMap Sd.cells) ∧ n = out.length ∧ AgentAt w' L2 who g M ∧ Step (ofP who) L w L2 w'
def RTicked (w : World) (L : Labs) (who g : Nat) (n : Nat) (R : Rf) (out : List Sd) (ev : Value) (e : Ending) (w' : World) : Prop :=
  ∃ v L2 l, e = .returned (.tuple #[v, ev]) ∧ RowAt w' L2 l 68 4 v n (out.flatMap Sd.cells) ∧ RefAt w' L2 who g R ∧ Step (ofP who) L w L2 w'
theorem law_tick (A : Nat → Addr) (L : Labs) (who g t : Nat) (M : Ag) (ms draw : Int) (w : World) (l2 : Lab) (hS : Sents.Holds w 260 gl 11 A) (hA : AgentAt w L who g M) (hi : Inv M t) (ht : t + 1 ≤ 1000000000000) :
    Calls Tryz.prog 30 #[.pointer (some ⟨g, 0, none⟩), .int .i64 ms, .int .i64 draw] w fun e w' => LTicked w L who g l2 (M.tickOut ms draw).length (M.tickTo ms draw) (M.tickOut ms draw) (errV A (tickNo ms draw)) e w' := by
  unfold tickNo Ag.tickOut Ag.tickTo
  by_cases hb : tickB ms draw = true
  · obtain ⟨b1, b2, b3⟩ := tickB_true hb
    rw [if_pos hb, if_pos hb, if_pos hb]
    refine (tick_inv L who g t M ms draw w hA hi ht b1 b2 b3).mono ?_
    intro e w' h
    obtain ⟨v, L2, r1, r2, r3, r4⟩ := h.label l2
    exact ⟨v, L2, r1, r2, rfl, r3, r4⟩
  · rw [if_neg hb, if_neg hb, if_neg hb]
    refine (tick_bad A g ms draw w hS (by
      by_cases h1 : inB ms 0 60000 = false
      · exact Or.inl h1
      · refine Or.inr ?_
        simp only [tickB, Bool.and_eq_true, decide_eq_true_eq] at hb
        simp only [inB, Bool.not_eq_false, Bool.and_eq_true, decide_eq_true_eq] at h1
        omega)).mono ?_
    rintro e w' ⟨rfl, hB⟩
    exact ⟨_, L, rfl, RowAt.nil _ _ _ _ _, rfl, hA.keep (Step.of_below (p := fun _ => False) hB) (fun _ h => h), Step.of_below hB⟩
theorem law_refTick (L : Labs) (who g t : Nat) (M : Ag) (R : Rf) (ms draw : Int) (w : World) (hR : RefAt w L who g R) (hs : Sim M R) (hi : Inv M t) (ht : t + 1 ≤ 1000000000000) :
    Calls Tryz.prog 88 #[.pointer (some ⟨g, 0, none⟩), .int .i64 ms, .int .i64 draw] w fun e w' => RTicked w L who g (M.tickOut ms draw).length (R.tickTo ms draw) (M.tickOut ms draw) (.int .i64 (tickNo ms draw)) e w' := by
  unfold tickNo Ag.tickOut Rf.tickTo
  by_cases hb : tickB ms draw = true
  · obtain ⟨b1, b2, b3⟩ := tickB_true hb
    rw [if_pos hb, if_pos hb, if_pos hb]
    refine (refTick_any L who g M R t ms draw w hR hs hi (by omega) b1 b2 b3).mono ?_
    rintro e w' ⟨l, v, L2, rfl, r2, r3, r4⟩
    rw [(sim_ticked hs hi (by omega) b1 b2 b3).2] at r2
    exact ⟨v, L2, l, rfl, r2, r3, r4⟩
  · rw [if_neg hb, if_neg hb, if_neg hb]
    refine (refTick_bad g ms draw w (by
      simp only [tickB, Bool.and_eq_true, decide_eq_true_eq] at hb
      omega)).mono ?_
    rintro e w' ⟨rfl, rfl⟩
    exact ⟨_, L, none, rfl, RowAt.nil _ _ _ _ _, hR, Step.refl _ _ _⟩

/-! ### Reply -/
def Ag.answered (M : Ag) (R : Rf) (d try' : Int) (good : Bool) (draw : Int) : Ag := if R.stale d try' draw = 0 then M.replied d.toNat good draw else M
theorem stale_zero {R : Rf} {d try' draw : Int} (h : R.stale d try' draw = 0) : 0 ≤ d ∧ d < R.c.d ∧ 0 ≤ draw ∧ ∃ l, R.ls[d.toNat]? = some l ∧ 0 ≤ l.way ∧ l.sends = try' := by
  unfold Rf.stale at h
  by_cases h1 : d < 0 ∨ R.c.d ≤ d
  · rw [if_pos h1] at h; cases h
  · rw [if_neg h1] at h
    by_cases h2 : draw < 0
    · rw [if_pos h2] at h; cases h
    · rw [if_neg h2] at h
      cases hl : R.ls[d.toNat]? with
      | none => rw [hl] at h; cases h
      | some l =>
        rw [hl] at h
        simp only at h
        by_cases h3 : l.way < 0 ∨ l.sends ≠ try'
        · rw [if_pos h3] at h; cases h
        · exact ⟨by omega, by omega, by omega, l, rfl, by omega, Classical.byContradiction fun e => h3 (Or.inr e)⟩
theorem stale_le (R : Rf) (d try' draw : Int) : R.stale d try' draw ≤ 11 := by
  unfold Rf.stale
  split
  · omega
  · split
    · omega
    · split
      · omega
      · split <;> omega
theorem sim_answered {M : Ag} {R : Rf} {t : Nat} {d try' : Int} {good : Bool} {draw : Int} (h : Sim M R) (hi : Inv M t) (ht : t + 1 ≤ 10000000000000) : Sim (M.answered R d try' good draw) (R.answered d try' good draw) ∧ Inv (M.answered R d try' good draw) (t + 1) := by
  unfold Ag.answered Rf.answered
  by_cases h0 : R.stale d try' draw = 0
  · rw [if_pos h0, if_pos h0]
    obtain ⟨a1, a2, a3, l, a4, a5, a6⟩ := stale_zero h0
    obtain ⟨o, ho, hol⟩ := h.line' a4
    have hw : o.way ≠ -1 := by have := hol.way; omega
    exact ⟨(sim_replied h hi (by omega) a3 ho hw good).1, hi.replied ht a3 ho hw good⟩
  · rw [if_neg h0, if_neg h0]
    exact ⟨h, hi.more (by omega)⟩
theorem law_reply (A : Nat → Addr) (L : Labs) (who g t : Nat) (M : Ag) (R : Rf) (d try' : Int) (good : Bool) (draw : Int) (w : World) (hS : Sents.Holds w 260 gl 11 A) (hA : AgentAt w L who g M) (hs : Sim M R) (hi : Inv M t) (ht : t + 1 ≤ 1000000000000) :
    Calls Tryz.prog 31 #[.pointer (some ⟨g, 0, none⟩), .int .i64 d, .int .i64 try', .bool good, .int .i64 draw] w fun e w' => e = .returned (errV A (R.stale d try' draw)) ∧ Turned w L who g (M.answered R d try' good draw) w' := by
  have hno : ∀ (n : Nat) (e : Ending) (w' : World), R.stale d try' draw = n + 1 → e = .returned (ev A n) ∧ Below w.heap.size w w' → e = .returned (errV A (R.stale d try' draw)) ∧ Turned w L who g (M.answered R d try' good draw) w' := fun n e w' hn h => by
    have e2 : M.answered R d try' good draw = M := if_neg (by rw [hn]; omega)
    rw [e2, hn]
    exact ⟨h.1, L, hA.keep (Step.of_below (p := fun _ => False) h.2) (fun _ h => h), Step.of_below h.2⟩
  by_cases h1 : d < 0 ∨ R.c.d ≤ d
  · exact (reply_dest A L who g M d try' good draw w hS hA (by simp only [destB, Bool.and_eq_false_iff, decide_eq_false_iff_not]; rw [← hs.c]; omega)).mono (fun e w' h => hno 2 e w' (by unfold Rf.stale; rw [if_pos h1]) h)
  have hdb : destB M d = true := by simp only [destB, Bool.and_eq_true, decide_eq_true_eq]; rw [← hs.c]; omega
  by_cases h2 : draw < 0
  · exact (reply_range A L who g M d try' good draw w hS hA hdb h2).mono (fun e w' h => hno 9 e w' (by unfold Rf.stale; rw [if_neg h1, if_pos h2]) h)
  obtain ⟨k, rfl⟩ : ∃ k : Nat, d = k := ⟨d.toNat, by omega⟩
  obtain ⟨o, ho⟩ : ∃ o, M.os[k]? = some o := ⟨_, List.getElem?_eq_getElem (by have := hi.ol; rw [← hs.c] at this; omega)⟩
  obtain ⟨l, hl, hol⟩ := hs.line ho
  have hwn : o.way = -1 ∨ 0 ≤ o.way := by
    rcases hi.way k o ho with e | ⟨p, b, e, _⟩
    · exact Or.inl e
    · exact Or.inr (by omega)
  have hstl : R.stale k try' draw = if l.way < 0 ∨ l.sends ≠ try' then 11 else 0 := by
    unfold Rf.stale
    rw [if_neg h1, if_neg h2, Int.toNat_natCast, hl]
  by_cases h3 : l.way < 0 ∨ l.sends ≠ try'
  · refine (reply_stale A L who g k M o try' good draw w hS hA hdb (by omega) ho ?_).mono (fun e w' h => hno 10 e w' (by rw [hstl, if_pos h3]) h)
    rw [hol.way, hol.sends] at h3
    rcases h3 with h3 | h3
    · rw [show o.way = -1 by omega]; rfl
    · rw [Bool.and_eq_false_iff]; exact Or.inr (by simpa using h3)
  · have h0 : R.stale k try' draw = 0 := by rw [hstl, if_neg h3]
    have e2 : M.answered R k try' good draw = M.replied k good draw := by unfold Ag.answered; rw [if_pos h0, Int.toNat_natCast]
    rw [h0, e2]
    have htr : o.sends = try' := Classical.byContradiction fun e => h3 (Or.inr (by rw [hol.sends]; exact e))
    rw [← htr]
    exact reply_inv L who g t k M o good draw w hA hi ht (by omega) ho (by have := hol.way; omega)
end Go.Proofs.YtojpjaifhjigfaaGreatDoor

/- The reader of a log. -/
namespace Go.Proofs.YtojpjaifhjigfaaGreatDoor
open Go.RowKit Go.Maps

/-- What is left, and whether a piece was not there whole. -/
structure Rd where
  rest : List UInt8
  short : Bool
def Rd.cells (r : Rd) : Array Value := #[encStr r.rest, .bool r.short]
def Rd.piece (r : Rd) (n : Nat) : List UInt8 × Rd := if r.rest.length < n then ([], ⟨[], true⟩) else (r.rest.take n, ⟨r.rest.drop n, r.short⟩)
def Rd.number (r : Rd) : Nat × Rd := match r.rest with | [] => (0, ⟨[], true⟩) | x :: l => (x.toNat, ⟨l, r.short⟩)
def Rd.text (r : Rd) : List UInt8 × Rd := r.number.2.piece r.number.1
def Rd.record (r : Rd) : Nat × List UInt8 × Rd := (r.number.1, (r.number.2.number.2.number.2.piece (r.number.2.number.1 * 256 + r.number.2.number.2.number.1)).1, (r.number.2.number.2.number.2.piece (r.number.2.number.1 * 256 + r.number.2.number.2.number.1)).2)
/-- Where the reader lies; all else is as it was. -/
def RdAt (w : World) (gr : Nat) (r : Rd) : Prop := Blk w gr r.cells 182
theorem Rd.number_lt (r : Rd) : r.number.1 < 256 := by
  unfold Rd.number
  split
  · simp
  · rename_i x l _
    exact x.toNat_lt

theorem grown_refl (w : World) (r : Option Nat) : w.grownBy w r := ⟨rfl, rfl, rfl, Nat.le_refl _, fun _ _ _ => rfl⟩
theorem grown_trans {w w1 w2 : World} {r : Option Nat} (h : w.grownBy w1 r) (k : w1.grownBy w2 r) : w.grownBy w2 r :=
  ⟨k.os.trans h.os, k.tape.trans h.tape, k.output.trans h.output, Nat.le_trans h.size k.size, fun i hi hn => (k.block i (Nat.lt_of_lt_of_le hi h.size) hn).trans (h.block i hi hn)⟩
theorem grown_set (w : World) (g i : Nat) (v : Value) : w.grownBy (w.setCell ⟨g, i, none⟩ v) (some g) :=
  ⟨rfl, rfl, rfl, by simp [World.setCell], fun k _ hn => Below.heap_setCell _ _ _ _ (fun e => hn (by simpa using e))⟩
theorem enc_take (l : List UInt8) (n : Nat) : Value.string ((ByteArray.mk l.toArray).extract 0 n) = encStr (l.take n) := by
  rw [ByteArray.extract_mk]
  rfl
theorem enc_drop (l : List UInt8) (n : Nat) : Value.string ((ByteArray.mk l.toArray).extract n l.length) = encStr (l.drop n) := by
  rw [ByteArray.extract_mk, List.take_of_length_le (by simp)]

set_option maxHeartbeats 1000000 in
theorem piece_any (gr : Nat) (r : Rd) (n : Nat) (w : World) (h : RdAt w gr r) : Calls Tryz.prog 130 #[.pointer (some ⟨gr, 0, none⟩), .int .i64 n] w fun e w' => e = .returned (encStr (r.piece n).1) ∧ RdAt w' gr (r.piece n).2 ∧ w.grownBy w' (some gr) := by
  have c0 : w.cell? ⟨gr, 0, none⟩ = some (encStr r.rest) := Blk.cell h 0
  have c1 : w.cell? ⟨gr, 1, none⟩ = some (.bool r.short) := Blk.cell h 1
  have f0 : w.frozen? ⟨gr, 0, none⟩ = false := Blk.frozen h 0
  have f1 : w.frozen? ⟨gr, 1, none⟩ = false := Blk.frozen h 1
  have H := hide h
  obtain ⟨rest, short⟩ := r
  simp only at c0 c1
  clear h
  by_cases hlt : rest.length < n
  · have hltI : (rest.length : Int) < (n : Int) := by omega
    have e : Rd.piece ⟨rest, short⟩ n = ([], ⟨[], true⟩) := if_pos hlt
    rw [e]
    clear e
    go_enter Tryz.func130, Tryz.ntmps130
    go_wp2_with fail
    go_ret
    refine ⟨rfl, ?_, grown_trans (grown_set _ _ _ _) (grown_set _ _ _ _)⟩
    exact (Blk.set (Blk.set H.out 0 (encStr [])) 1 (.bool true))
  · have hltI : ¬ (rest.length : Int) < (n : Int) := by omega
    have e : Rd.piece ⟨rest, short⟩ n = (rest.take n, ⟨rest.drop n, short⟩) := if_neg hlt
    rw [e]
    clear e
    go_enter Tryz.func130, Tryz.ntmps130
    go_wp2_with fail
    go_ret
    refine ⟨?_, ?_, grown_set _ _ _ _⟩
    · show Ending.returned (Value.string _) = _
      rw [enc_take]
    · rw [enc_drop]
      exact Blk.set H.out 0 (encStr (rest.drop n))

theorem wrap64_small {n : Nat} (h : n < 1000000) : wrap64 (n : Int) = n := by
  unfold wrap64
  omega
theorem number_piece (r : Rd) : r.number = (match (r.piece 1).1 with | [] => 0 | x :: _ => x.toNat, (r.piece 1).2) := by
  obtain ⟨rest, short⟩ := r
  cases rest with
  | nil => rfl
  | cons x l =>
    unfold Rd.number Rd.piece
    simp
set_option maxHeartbeats 1000000 in
theorem number_any (gr : Nat) (r : Rd) (w : World) (h : RdAt w gr r) : Calls Tryz.prog 129 #[.pointer (some ⟨gr, 0, none⟩)] w fun e w' => e = .returned (.int .i64 r.number.1) ∧ RdAt w' gr r.number.2 ∧ w.grownBy w' (some gr) := by
  have HP := hide (piece_any gr r 1 w h)
  rw [number_piece]
  have hl : (r.piece 1).1.length ≤ 1 := by
    unfold Rd.piece
    split
    · simp
    · simp; omega
  generalize r.piece 1 = pr at *
  obtain ⟨p, r'⟩ := pr
  simp only at HP hl ⊢
  clear h
  cases p with
  | nil =>
    go_enter Tryz.func129, Tryz.ntmps129
    go_wp2_with fail
    refine HP.out.mono ?_
    rintro e w1 ⟨rfl, h1, h2⟩
    have H1 := hide h1
    have H2 := hide h2
    clear h1 h2
    go_wp2_with fail
    go_ret
    exact ⟨rfl, H1.out, H2.out⟩
  | cons x l =>
    obtain rfl : l = [] := by simpa using hl
    go_enter Tryz.func129, Tryz.ntmps129
    go_wp2_with fail
    refine HP.out.mono ?_
    rintro e w1 ⟨rfl, h1, h2⟩
    have H1 := hide h1
    have H2 := hide h2
    clear h1 h2
    go_wp2_with fail
    go_ret
    refine ⟨?_, H1.out, H2.out⟩
    show Ending.returned (Value.int IntKind.i64 (wrap64 ((x.toNat : Nat) : Int))) = _
    rw [wrap64_small (by have := x.toNat_lt; omega)]
set_option maxHeartbeats 1000000 in
theorem text_any (gr : Nat) (r : Rd) (w : World) (h : RdAt w gr r) : Calls Tryz.prog 153 #[.pointer (some ⟨gr, 0, none⟩)] w fun e w' => e = .returned (encStr r.text.1) ∧ RdAt w' gr r.text.2 ∧ w.grownBy w' (some gr) := by
  have HN := hide (number_any gr r w h)
  have HP := hide (fun w' h' => piece_any gr r.number.2 r.number.1 w' h')
  unfold Rd.text
  generalize r.number = nr at *
  obtain ⟨n, r1⟩ := nr
  simp only at HN HP ⊢
  generalize r1.piece n = pr at *
  obtain ⟨p, r2⟩ := pr
  simp only at HP ⊢
  clear h
  go_enter Tryz.func153, Tryz.ntmps153
  go_wp2_with fail
  refine HN.out.mono ?_
  rintro e w1 ⟨rfl, h1, h2⟩
  have HP1 := hide (HP.out w1 h1)
  have H2 := hide h2
  clear h1 h2
  go_wp2_with fail
  refine HP1.out.mono ?_
  rintro e w2 ⟨rfl, h3, h4⟩
  have H3 := hide h3
  have H4 := hide h4
  clear h3 h4
  go_wp2_with fail
  go_ret
  exact ⟨rfl, H3.out, grown_trans H2.out H4.out⟩
end Go.Proofs.YtojpjaifhjigfaaGreatDoor

/- The reader: a record, an event. -/
namespace Go.Proofs.YtojpjaifhjigfaaGreatDoor
open Go.RowKit Go.Maps

set_option maxHeartbeats 1000000 in
theorem rdRecord_any (gr : Nat) (r : Rd) (w : World) (h : RdAt w gr r) : Calls Tryz.prog 103 #[.pointer (some ⟨gr, 0, none⟩)] w fun e w' => e = .returned (.tuple #[.int .i64 r.record.1, encStr r.record.2.1]) ∧ RdAt w' gr r.record.2.2 ∧ w.grownBy w' (some gr) := by
  have HN1 := hide (number_any gr r w h)
  have HN2 := hide (fun w' h' => number_any gr r.number.2 w' h')
  have HN3 := hide (fun w' h' => number_any gr r.number.2.number.2 w' h')
  have HP := hide (fun w' h' => piece_any gr r.number.2.number.2.number.2 (r.number.2.number.1 * 256 + r.number.2.number.2.number.1) w' h')
  have b2 := r.number.2.number_lt
  have b3 := r.number.2.number.2.number_lt
  unfold Rd.record
  generalize r.number = x1 at *
  obtain ⟨n1, r1⟩ := x1
  simp only at HN1 HN2 HN3 HP b2 b3 ⊢
  generalize r1.number = x2 at *
  obtain ⟨n2, r2⟩ := x2
  simp only at HN2 HN3 HP b2 b3 ⊢
  generalize r2.number = x3 at *
  obtain ⟨n3, r3⟩ := x3
  simp only at HN3 HP b3 ⊢
  have e : (n2 : Int) * 256 + (n3 : Int) = ((n2 * 256 + n3 : Nat) : Int) := by omega
  have HP' : Hid (∀ w', RdAt w' gr r3 → Calls Tryz.prog 130 #[.pointer (some ⟨gr, 0, none⟩), .int .i64 ((n2 : Int) * 256 + (n3 : Int))] w' fun e w2 => e = .returned (encStr (r3.piece (n2 * 256 + n3)).1) ∧ RdAt w2 gr (r3.piece (n2 * 256 + n3)).2 ∧ w'.grownBy w2 (some gr)) := fun w' h' => by
    rw [e]; exact HP.out w' h'
  generalize r3.piece (n2 * 256 + n3) = pr at *
  obtain ⟨p, r4⟩ := pr
  simp only at HP' ⊢
  clear h HP e
  go_enter Tryz.func103, Tryz.ntmps103
  go_wp2_with fail
  refine HN1.out.mono ?_
  rintro e w1 ⟨rfl, h1, g1⟩
  have HN2' := hide (HN2.out w1 h1)
  have G1 := hide g1
  clear h1 g1
  go_wp2_with fail
  refine HN2'.out.mono ?_
  rintro e w2 ⟨rfl, h2, g2⟩
  have HN3' := hide (HN3.out w2 h2)
  have G2 := hide (grown_trans G1.out g2)
  clear h2 g2
  go_wp2_with fail
  refine HN3'.out.mono ?_
  rintro e w3 ⟨rfl, h3, g3⟩
  have HP3 := hide (HP'.out w3 h3)
  have G3 := hide (grown_trans G2.out g3)
  clear h3 g3
  go_wp2_with fail
  refine HP3.out.mono ?_
  rintro e w4 ⟨rfl, h4, g4⟩
  have H4 := hide h4
  have G4 := hide (grown_trans G3.out g4)
  clear h4 g4
  go_wp2_with fail
  go_ret2
  exact ⟨rfl, H4.out, G4.out⟩

/-- An event as its bytes say it. -/
def Rd.event (r : Rd) : Ev × Rd :=
  if r.number.1 ≠ 0 then (⟨r.number.1, noBat, r.number.2.number.1, r.number.2.number.2.number.1⟩, r.number.2.number.2.number.2)
  else (⟨0, ⟨r.number.2.number.1, r.number.2.number.2.text.1, r.number.2.number.2.text.2.text.1, r.number.2.number.2.text.2.text.2.text.1, 0, 0⟩, 0, 0⟩, r.number.2.number.2.text.2.text.2.text.2)

/-- While an event is read: the reader, the result's block, the event's block. -/
structure EvAt (w W : World) (gr gE : Nat) (r : Rd) (cs : Array Value) : Prop where
  rd : RdAt W gr r
  res : Blk W w.heap.size #[.int .i64 0, .int .i64 0, .string ⟨#[]⟩, .string ⟨#[]⟩, .string ⟨#[]⟩, .int .i64 0, .int .i64 0] 151
  ev : Blk W gE cs 151
  gw : w.grownBy W (some gr)
  lt : w.heap.size < gE
  hr : gr < w.heap.size
theorem EvAt.call {w W W' : World} {gr gE : Nat} {r r' : Rd} {cs : Array Value} (h : EvAt w W gr gE r cs) (h' : RdAt W' gr r') (g : W.grownBy W' (some gr)) : EvAt w W' gr gE r' cs :=
  ⟨h', h.res.grown g (by have := h.hr; simp; omega), h.ev.grown g (by have := h.hr; have := h.lt; simp; omega), grown_trans h.gw g, h.lt, h.hr⟩
theorem grown_high {w W : World} {r : Option Nat} (h : w.grownBy W r) {g : Nat} (hg : w.heap.size ≤ g) (i : Nat) (v : Value) : w.grownBy (W.setCell ⟨g, i, none⟩ v) r :=
  ⟨h.os, h.tape, h.output, by simp [World.setCell]; exact h.size, fun k hk hn => (Below.heap_setCell _ _ _ _ (fun e => by simp at e; omega)).trans (h.block k hk hn)⟩
theorem grown_alloc {w W : World} {r : Option Nat} (h : w.grownBy W r) (o : Obj) : w.grownBy (W.alloc o) r :=
  ⟨h.os, h.tape, h.output, by simp; exact Nat.le_succ_of_le h.size, fun k hk hn => (Below.heap_alloc _ _ _ (Nat.lt_of_lt_of_le hk h.size)).trans (h.block k hk hn)⟩
theorem EvAt.set {w W : World} {gr gE : Nat} {r : Rd} {cs : Array Value} (h : EvAt w W gr gE r cs) (i : Nat) (v : Value) : EvAt w (W.setCell ⟨gE, i, none⟩ v) gr gE r (cs.setIfInBounds i v) :=
  ⟨Blk.other h.rd _ _ (by have := h.hr; have := h.lt; simp; omega), h.res.other _ _ (by have := h.lt; simp; omega), h.ev.set i v, grown_high h.gw (Nat.le_of_lt h.lt) i v, h.lt, h.hr⟩
/-- The event is handed back. -/
theorem EvAt.out {w W : World} {gr gE : Nat} {r : Rd} {cs : Array Value} (h : EvAt w W gr gE r cs) (v0 v1 v2 v3 v4 v5 v6 : Value) :
    Blk (((((((W.setCell ⟨w.heap.size, 0, none⟩ v0).setCell ⟨w.heap.size, 1, none⟩ v1).setCell ⟨w.heap.size, 2, none⟩ v2).setCell ⟨w.heap.size, 3, none⟩ v3).setCell ⟨w.heap.size, 4, none⟩ v4).setCell ⟨w.heap.size, 5, none⟩ v5).setCell ⟨w.heap.size, 6, none⟩ v6) w.heap.size #[v0, v1, v2, v3, v4, v5, v6] 151 ∧ RdAt (((((((W.setCell ⟨w.heap.size, 0, none⟩ v0).setCell ⟨w.heap.size, 1, none⟩ v1).setCell ⟨w.heap.size, 2, none⟩ v2).setCell ⟨w.heap.size, 3, none⟩ v3).setCell ⟨w.heap.size, 4, none⟩ v4).setCell ⟨w.heap.size, 5, none⟩ v5).setCell ⟨w.heap.size, 6, none⟩ v6) gr r ∧ w.grownBy (((((((W.setCell ⟨w.heap.size, 0, none⟩ v0).setCell ⟨w.heap.size, 1, none⟩ v1).setCell ⟨w.heap.size, 2, none⟩ v2).setCell ⟨w.heap.size, 3, none⟩ v3).setCell ⟨w.heap.size, 4, none⟩ v4).setCell ⟨w.heap.size, 5, none⟩ v5).setCell ⟨w.heap.size, 6, none⟩ v6) (some gr) := by
  have hr := h.hr
  have hne : gr ≠ w.heap.size := by omega
  refine ⟨((((((h.res.set 0 v0).set 1 v1).set 2 v2).set 3 v3).set 4 v4).set 5 v5).set 6 v6, ?_, ?_⟩
  · exact Blk.other (Blk.other (Blk.other (Blk.other (Blk.other (Blk.other (Blk.other h.rd _ _ (by simpa using hne)) _ _ (by simpa using hne)) _ _ (by simpa using hne)) _ _ (by simpa using hne)) _ _ (by simpa using hne)) _ _ (by simpa using hne)) _ _ (by simpa using hne)
  · exact grown_high (grown_high (grown_high (grown_high (grown_high (grown_high (grown_high h.gw (Nat.le_refl _) _ _) (Nat.le_refl _) _ _) (Nat.le_refl _) _ _) (Nat.le_refl _) _ _) (Nat.le_refl _) _ _) (Nat.le_refl _) _ _) (Nat.le_refl _) _ _

set_option maxRecDepth 100000 in
set_option maxHeartbeats 2000000 in
theorem rdEvent_any (gr : Nat) (r : Rd) (w : World) (h : RdAt w gr r) : Calls Tryz.prog 131 #[.pointer (some ⟨gr, 0, none⟩)] w fun e w' => e = .returned r.event.1.val ∧ RdAt w' gr r.event.2 ∧ w.grownBy w' (some gr) := by
  have hgr : gr < w.heap.size := Blk.lt h
  have HN1 := hide (number_any gr r (w.alloc (.cells #[.int .i64 0, .int .i64 0, .string ⟨#[]⟩, .string ⟨#[]⟩, .string ⟨#[]⟩, .int .i64 0, .int .i64 0] 151)) (Blk.alloc h _))
  have HN2 := hide (fun w' h' => number_any gr r.number.2 w' h')
  have HN3 := hide (fun w' h' => number_any gr r.number.2.number.2 w' h')
  have HT1 := hide (fun w' h' => text_any gr r.number.2.number.2 w' h')
  have HT2 := hide (fun w' h' => text_any gr r.number.2.number.2.text.2 w' h')
  have HT3 := hide (fun w' h' => text_any gr r.number.2.number.2.text.2.text.2 w' h')
  unfold Rd.event
  generalize r.number = x1 at *
  obtain ⟨n1, r1⟩ := x1
  simp only at HN1 HN2 HN3 HT1 HT2 HT3 ⊢
  generalize r1.number = x2 at *
  obtain ⟨n2, r2⟩ := x2
  simp only at HN2 HN3 HT1 HT2 HT3 ⊢
  by_cases hk : n1 = 0
  · subst hk
    rw [if_neg (by simp)]
    generalize r2.text = x3 at *
    obtain ⟨t1, r3⟩ := x3
    simp only at HT1 HT2 HT3 ⊢
    generalize r3.text = x4 at *
    obtain ⟨t2, r4⟩ := x4
    simp only at HT2 HT3 ⊢
    generalize r4.text = x5 at *
    obtain ⟨t3, r5⟩ := x5
    simp only at HT3 ⊢
    clear h HN3
    go_enter Tryz.func131, Tryz.ntmps131
    go_wp2_with fail
    refine HN1.out.mono ?_
    rintro e w1 ⟨rfl, h1, g1⟩
    have hR1 : Blk w1 w.heap.size #[.int .i64 0, .int .i64 0, .string ⟨#[]⟩, .string ⟨#[]⟩, .string ⟨#[]⟩, .int .i64 0, .int .i64 0] 151 := (Blk.new w _ _).grown g1 (by simp; omega)
    have hE0 : ∀ cs, EvAt w (w1.alloc (.cells cs 151)) gr w1.heap.size r1 cs := fun cs => ⟨Blk.alloc h1 _, hR1.alloc _, Blk.new w1 _ _, grown_alloc (grown_trans (grown_alloc (grown_refl w _) _) g1) _, hR1.lt, hgr⟩
    have HE0 := hide hE0
    clear h1 g1 hR1 hE0
    go_wp2_with fail
    generalize hW2 : World.alloc w1 _ = W2
    have HE2 : Hid (EvAt w W2 gr w1.heap.size r1 #[.int .i64 0, .int .i64 0, .string ⟨#[]⟩, .string ⟨#[]⟩, .string ⟨#[]⟩, .int .i64 0, .int .i64 0]) := by rw [← hW2]; exact HE0.out _
    clear hW2 HE0 HN1
    generalize w1.heap.size = gE at *
    refine (HN2.out W2 HE2.out.rd).mono ?_
    rintro e w3 ⟨rfl, h3, g3⟩
    have HE3 := hide (HE2.out.call h3 g3)
    have c3 : w3.cell? ⟨gE, 1, none⟩ = some (.int .i64 0) := HE3.out.ev.cell 1
    have f3 := HE3.out.ev.frozen 1
    clear h3 g3 HE2
    go_wp2_with fail
    generalize hW4 : w3.setCell ⟨gE, 1, none⟩ _ = W4
    have HE4 : Hid (EvAt w W4 gr gE r2 #[.int .i64 0, .int .i64 n2, .string ⟨#[]⟩, .string ⟨#[]⟩, .string ⟨#[]⟩, .int .i64 0, .int .i64 0]) := by rw [← hW4]; exact HE3.out.set 1 (.int .i64 n2)
    clear hW4 HE3 c3 f3
    refine (HT1.out W4 HE4.out.rd).mono ?_
    rintro e w5 ⟨rfl, h5, g5⟩
    have HE5 := hide (HE4.out.call h5 g5)
    have c5 : w5.cell? ⟨gE, 2, none⟩ = some (.string ⟨#[]⟩) := HE5.out.ev.cell 2
    have f5 := HE5.out.ev.frozen 2
    clear h5 g5 HE4
    go_wp2_with fail
    generalize hW6 : w5.setCell ⟨gE, 2, none⟩ _ = W6
    have HE6 : Hid (EvAt w W6 gr gE r3 #[.int .i64 0, .int .i64 n2, encStr t1, .string ⟨#[]⟩, .string ⟨#[]⟩, .int .i64 0, .int .i64 0]) := by rw [← hW6]; exact HE5.out.set 2 (encStr t1)
    clear hW6 HE5 c5 f5
    refine (HT2.out W6 HE6.out.rd).mono ?_
    rintro e w7 ⟨rfl, h7, g7⟩
    have HE7 := hide (HE6.out.call h7 g7)
    have c7 : w7.cell? ⟨gE, 3, none⟩ = some (.string ⟨#[]⟩) := HE7.out.ev.cell 3
    have f7 := HE7.out.ev.frozen 3
    clear h7 g7 HE6
    go_wp2_with fail
    generalize hW8 : w7.setCell ⟨gE, 3, none⟩ _ = W8
    have HE8 : Hid (EvAt w W8 gr gE r4 #[.int .i64 0, .int .i64 n2, encStr t1, encStr t2, .string ⟨#[]⟩, .int .i64 0, .int .i64 0]) := by rw [← hW8]; exact HE7.out.set 3 (encStr t2)
    clear hW8 HE7 c7 f7
    refine (HT3.out W8 HE8.out.rd).mono ?_
    rintro e w9 ⟨rfl, h9, g9⟩
    have HE9 := hide (HE8.out.call h9 g9)
    have HE10 : Hid (EvAt w (w9.setCell ⟨gE, 4, none⟩ (encStr t3)) gr gE r5 #[.int .i64 0, .int .i64 n2, encStr t1, encStr t2, encStr t3, .int .i64 0, .int .i64 0]) := HE9.out.set 4 (encStr t3)
    have hne : ¬ (w.heap.size = gE) := fun e => by have := HE9.out.lt; omega
    have hne2 : ¬ (gE = w.heap.size) := fun e => hne e.symm
    have e0 : w9.cell? ⟨gE, 0, none⟩ = some (.int .i64 0) := HE9.out.ev.cell 0
    have e1 : w9.cell? ⟨gE, 1, none⟩ = some (.int .i64 n2) := HE9.out.ev.cell 1
    have e2 : w9.cell? ⟨gE, 2, none⟩ = some (encStr t1) := HE9.out.ev.cell 2
    have e3 : w9.cell? ⟨gE, 3, none⟩ = some (encStr t2) := HE9.out.ev.cell 3
    have e4 : w9.cell? ⟨gE, 4, none⟩ = some (.string ⟨#[]⟩) := HE9.out.ev.cell 4
    have e5 : w9.cell? ⟨gE, 5, none⟩ = some (.int .i64 0) := HE9.out.ev.cell 5
    have e6 : w9.cell? ⟨gE, 6, none⟩ = some (.int .i64 0) := HE9.out.ev.cell 6
    have f6 := HE9.out.ev.frozen 4
    have p0 : w9.cell? ⟨w.heap.size, 0, none⟩ = some (.int .i64 0) := HE9.out.res.cell 0
    have p1 : w9.cell? ⟨w.heap.size, 1, none⟩ = some (.int .i64 0) := HE9.out.res.cell 1
    have p2 : w9.cell? ⟨w.heap.size, 2, none⟩ = some (.string ⟨#[]⟩) := HE9.out.res.cell 2
    have p3 : w9.cell? ⟨w.heap.size, 3, none⟩ = some (.string ⟨#[]⟩) := HE9.out.res.cell 3
    have p4 : w9.cell? ⟨w.heap.size, 4, none⟩ = some (.string ⟨#[]⟩) := HE9.out.res.cell 4
    have p5 : w9.cell? ⟨w.heap.size, 5, none⟩ = some (.int .i64 0) := HE9.out.res.cell 5
    have p6 : w9.cell? ⟨w.heap.size, 6, none⟩ = some (.int .i64 0) := HE9.out.res.cell 6
    have rf := fun o => HE9.out.res.frozen o
    clear h9 g9 HE8 HE9
    go_wp2_with fail
    obtain ⟨q1, q2, q3⟩ := HE10.out.out (.int .i64 0) (.int .i64 n2) (encStr t1) (encStr t2) (encStr t3) (.int .i64 0) (.int .i64 0)
    refine bodyPost_ret (v := .agg #[.int .i64 0, .int .i64 n2, encStr t1, encStr t2, encStr t3, .int .i64 0, .int .i64 0]) (results_cell1 Tryz.results131 rfl (run_loadVar_mid _ _ 0 151 [.int .i64 0, .int .i64 n2, encStr t1, encStr t2, encStr t3, .int .i64 0, .int .i64 0] _ (q1.range 0 _ rfl) Tryz.underlying151 rfl infoEv)) rfl ⟨rfl, q2, q3⟩
  · rw [if_pos hk]
    generalize r2.number = x3 at *
    obtain ⟨n3, r3⟩ := x3
    simp only at HN3 ⊢
    clear h HT1 HT2 HT3
    go_enter Tryz.func131, Tryz.ntmps131
    go_wp2_with fail
    refine HN1.out.mono ?_
    rintro e w1 ⟨rfl, h1, g1⟩
    have hR1 : Blk w1 w.heap.size #[.int .i64 0, .int .i64 0, .string ⟨#[]⟩, .string ⟨#[]⟩, .string ⟨#[]⟩, .int .i64 0, .int .i64 0] 151 := (Blk.new w _ _).grown g1 (by simp; omega)
    have hE0 : ∀ cs, EvAt w (w1.alloc (.cells cs 151)) gr w1.heap.size r1 cs := fun cs => ⟨Blk.alloc h1 _, hR1.alloc _, Blk.new w1 _ _, grown_alloc (grown_trans (grown_alloc (grown_refl w _) _) g1) _, hR1.lt, hgr⟩
    have HE0 := hide hE0
    clear h1 g1 hR1 hE0
    go_wp2_with fail
    generalize hW2 : World.alloc w1 _ = W2
    have HE2 : Hid (EvAt w W2 gr w1.heap.size r1 #[.int .i64 n1, .int .i64 0, .string ⟨#[]⟩, .string ⟨#[]⟩, .string ⟨#[]⟩, .int .i64 0, .int .i64 0]) := by rw [← hW2]; exact HE0.out _
    clear hW2 HE0 HN1
    generalize w1.heap.size = gE at *
    refine (HN2.out W2 HE2.out.rd).mono ?_
    rintro e w3 ⟨rfl, h3, g3⟩
    have HE3 := hide (HE2.out.call h3 g3)
    have c5 : w3.cell? ⟨gE, 5, none⟩ = some (.int .i64 0) := HE3.out.ev.cell 5
    have f5 := HE3.out.ev.frozen 5
    clear h3 g3 HE2
    go_wp2_with fail
    generalize hW4 : w3.setCell ⟨gE, 5, none⟩ _ = W4
    have HE4 : Hid (EvAt w W4 gr gE r2 #[.int .i64 n1, .int .i64 0, .string ⟨#[]⟩, .string ⟨#[]⟩, .string ⟨#[]⟩, .int .i64 n2, .int .i64 0]) := by rw [← hW4]; exact HE3.out.set 5 (.int .i64 n2)
    clear hW4 HE3 c5 f5
    refine (HN3.out W4 HE4.out.rd).mono ?_
    rintro e w5 ⟨rfl, h5, g5⟩
    have HE5 := hide (HE4.out.call h5 g5)
    have HE6 : Hid (EvAt w (w5.setCell ⟨gE, 6, none⟩ (.int .i64 n3)) gr gE r3 #[.int .i64 n1, .int .i64 0, .string ⟨#[]⟩, .string ⟨#[]⟩, .string ⟨#[]⟩, .int .i64 n2, .int .i64 n3]) := HE5.out.set 6 (.int .i64 n3)
    have hne : ¬ (w.heap.size = gE) := fun e => by have := HE5.out.lt; omega
    have hne2 : ¬ (gE = w.heap.size) := fun e => hne e.symm
    have e0 : w5.cell? ⟨gE, 0, none⟩ = some (.int .i64 n1) := HE5.out.ev.cell 0
    have e1 : w5.cell? ⟨gE, 1, none⟩ = some (.int .i64 0) := HE5.out.ev.cell 1
    have e2 : w5.cell? ⟨gE, 2, none⟩ = some (.string ⟨#[]⟩) := HE5.out.ev.cell 2
    have e3 : w5.cell? ⟨gE, 3, none⟩ = some (.string ⟨#[]⟩) := HE5.out.ev.cell 3
    have e4 : w5.cell? ⟨gE, 4, none⟩ = some (.string ⟨#[]⟩) := HE5.out.ev.cell 4
    have e5 : w5.cell? ⟨gE, 5, none⟩ = some (.int .i64 n2) := HE5.out.ev.cell 5
    have e6 : w5.cell? ⟨gE, 6, none⟩ = some (.int .i64 0) := HE5.out.ev.cell 6
    have f6 := HE5.out.ev.frozen 6
    have r0 : w5.cell? ⟨w.heap.size, 0, none⟩ = some (.int .i64 0) := HE5.out.res.cell 0
    have r1' : w5.cell? ⟨w.heap.size, 1, none⟩ = some (.int .i64 0) := HE5.out.res.cell 1
    have r2' : w5.cell? ⟨w.heap.size, 2, none⟩ = some (.string ⟨#[]⟩) := HE5.out.res.cell 2
    have r3' : w5.cell? ⟨w.heap.size, 3, none⟩ = some (.string ⟨#[]⟩) := HE5.out.res.cell 3
    have r4' : w5.cell? ⟨w.heap.size, 4, none⟩ = some (.string ⟨#[]⟩) := HE5.out.res.cell 4
    have r5' : w5.cell? ⟨w.heap.size, 5, none⟩ = some (.int .i64 0) := HE5.out.res.cell 5
    have r6' : w5.cell? ⟨w.heap.size, 6, none⟩ = some (.int .i64 0) := HE5.out.res.cell 6
    have rf := fun o => HE5.out.res.frozen o
    clear h5 g5 HE4 HE5
    go_wp2_with fail
    obtain ⟨q1, q2, q3⟩ := HE6.out.out (.int .i64 n1) (.int .i64 0) (.string ⟨#[]⟩) (.string ⟨#[]⟩) (.string ⟨#[]⟩) (.int .i64 n2) (.int .i64 n3)
    refine bodyPost_ret (v := .agg #[.int .i64 n1, .int .i64 0, .string ⟨#[]⟩, .string ⟨#[]⟩, .string ⟨#[]⟩, .int .i64 n2, .int .i64 n3]) (results_cell1 Tryz.results131 rfl (run_loadVar_mid _ _ 0 151 [.int .i64 n1, .int .i64 0, .string ⟨#[]⟩, .string ⟨#[]⟩, .string ⟨#[]⟩, .int .i64 n2, .int .i64 n3] _ (q1.range 0 _ rfl) Tryz.underlying151 rfl infoEv)) rfl ⟨rfl, q2, q3⟩
end Go.Proofs.YtojpjaifhjigfaaGreatDoor
