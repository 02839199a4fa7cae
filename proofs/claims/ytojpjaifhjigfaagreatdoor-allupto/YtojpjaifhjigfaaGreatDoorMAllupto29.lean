/- What the stands of a log hold: each call adds one record or none; a log that is cut leads to the stand before the cut; Compact. -/
import Derived.Test.YtojpjaifhjigfaaGreatDoorMAllupto27
import Derived.Test.YtojpjaifhjigfaaGreatDoorMAllupto28
import Derived.Test.YtojpjaifhjigfaaGreatDoorMAllupto21
import Derived.Test.YtojpjaifhjigfaaGreatDoorMAllupto17
namespace Go.Proofs.YtojpjaifhjigfaaGreatDoor
open Go.RowKit Go.Maps

/-- No two batches have one id. -/
def IdsOk (bs : List Bat) : Prop := ∀ (i j : Nat) (b b' : Bat), bs[i]? = some b → bs[j]? = some b' → b.id = b'.id → i = j

/-- Events that can be, one behind the other, and what they make. -/
def Leads2 (M : Ag) (es : List Ev) (M' : Ag) : Prop := Chain M es ∧ es.foldl Ag.played M = M'
theorem Leads2.nil (M : Ag) : Leads2 M [] M := ⟨trivial, rfl⟩
theorem Leads2.append {M M1 M2 : Ag} {a b : List Ev} (h : Leads2 M a M1) (k : Leads2 M1 b M2) : Leads2 M (a ++ b) M2 := by
  induction a generalizing M with
  | nil => obtain ⟨_, rfl⟩ := h; exact k
  | cons e es ih =>
    obtain ⟨⟨h1, h2⟩, h3⟩ := h
    obtain ⟨q1, q2⟩ := ih ⟨h2, h3⟩
    exact ⟨⟨h1, q1⟩, q2⟩
theorem Leads2.one {M M' : Ag} {e : Ev} (h : M.canBe e = true) (h2 : M.played e = M') : Leads2 M [e] M' := ⟨⟨h, trivial⟩, h2⟩

/-- Some of the batches as they are, the others as when they were taken. -/
def mix (bs : List Bat) (q : Nat → Bool) : List Bat := bs.zipIdx.map (fun x => if q x.2 then x.1 else x.1.fresh)
theorem mix_at (bs : List Bat) (q : Nat → Bool) (i : Nat) : (mix bs q)[i]? = (bs[i]?).map (fun b => if q i then b else b.fresh) := by
  unfold mix
  rw [List.getElem?_map, List.getElem?_zipIdx]
  cases bs[i]? with
  | none => rfl
  | some b => simp
theorem mix_eq {bs : List Bat} {q q' : Nat → Bool} (h : ∀ (i : Nat) (b : Bat), bs[i]? = some b → (if q i then b else b.fresh) = (if q' i then b else b.fresh)) : mix bs q = mix bs q' := by
  apply List.ext_getElem?
  intro i
  rw [mix_at, mix_at]
  cases hb : bs[i]? with
  | none => rfl
  | some b => simp only [Option.map_some]; rw [h i b hb]
theorem mix_all {bs : List Bat} {q : Nat → Bool} (h : ∀ (i : Nat) (b : Bat), bs[i]? = some b → (if q i then b else b.fresh) = b) : mix bs q = bs := by
  apply List.ext_getElem?
  intro i
  rw [mix_at]
  cases hb : bs[i]? with
  | none => rfl
  | some b => simp only [Option.map_some]; rw [h i b hb]
/-- One of them ends. -/
theorem mix_end {bs : List Bat} {q : Nat → Bool} {p k f : Nat} {b : Bat} (hb : bs[p]? = some b) (hq : q p = false) (he : b.fresh.ended k f = b) : (mix bs q).modify p (fun x => x.ended k f) = mix bs (fun i => q i || i == p) := by
  apply List.ext_getElem?
  intro i
  rw [List.getElem?_modify, mix_at, mix_at]
  cases hi : bs[i]? with
  | none => rfl
  | some x =>
    by_cases e : p = i
    · subst e
      rw [hb] at hi
      cases hi
      simp [hq, he]
    · have e2 : (i == p) = false := by simpa using fun h => e h.symm
      simp [e, e2]
/-- The agent on the way. -/
def Ag.mid (M : Ag) (bs : List Bat) (ds : List Nat) : Ag := { Ag.new M.c M.D M.ns with bs := bs, dead := ds }
theorem mid_took {M : Ag} {t : Nat} (h : Inv M t) (hid : IdsOk M.bs) : ∀ k, k ≤ M.bs.length → Leads2 (M.mid [] []) ((M.bs.take k).map tookEv) (M.mid ((M.bs.take k).map Bat.fresh) [])
  | 0, _ => Leads2.nil _
  | k + 1, hk => by
    have ih := mid_took h hid k (by omega)
    obtain ⟨b, hb⟩ : ∃ b, M.bs[k]? = some b := ⟨_, List.getElem?_eq_getElem (by omega)⟩
    rw [List.take_add_one, hb, List.map_append, List.map_append]
    refine ih.append (Leads2.one ?_ ?_)
    · obtain ⟨q1, q2, q3, q4, q5, q6, _⟩ := h.each b (List.mem_of_getElem? hb)
      have hf : findId ((M.bs.take k).map Bat.fresh) b.id = -1 := by
        unfold findId
        have : ((M.bs.take k).map Bat.fresh).findIdx? (fun x => x.id == b.id) = none := by
          rw [List.findIdx?_eq_none_iff]
          intro x hx
          obtain ⟨y, hy, rfl⟩ := List.mem_map.1 hx
          obtain ⟨j, hj, e⟩ := List.getElem_of_mem hy
          rw [List.length_take] at hj
          rw [List.getElem_take] at e
          simp only [beq_eq_false_iff_ne, ne_eq]
          show ¬ y.id = b.id
          intro e2
          have := hid j k y b (by rw [List.getElem?_eq_getElem (by omega), e]) hb e2
          omega
        rw [this]
      unfold Ag.canBe
      rw [if_pos (show (tookEv b).kind = 0 from rfl)]
      show ((M.mid ((M.bs.take k).map Bat.fresh) []).misfit b == 0) = true
      unfold Ag.misfit
      have e1 : destB (M.mid ((M.bs.take k).map Bat.fresh) []) b.dst = true := by simp [destB, Ag.mid, Ag.new]; omega
      have e2 : Maps.has (M.mid ((M.bs.take k).map Bat.fresh) []).D (.string b.ten) = true := (h.hs b.ten).1 q3
      have e3 : inB b.id.length 1 16 = true := by simp [inB]; omega
      have e5 : findId (M.mid ((M.bs.take k).map Bat.fresh) []).bs b.id = -1 := hf
      have e6 : (M.mid ((M.bs.take k).map Bat.fresh) []).bs.length < 120 := by
        show ((M.bs.take k).map Bat.fresh).length < 120
        rw [List.length_map, List.length_take]
        have := h.b120
        omega
      simp only [e1, e2, e3, e5, if_neg (show ¬ 63 < b.body.length by omega), if_neg (show ¬ 120 ≤ (M.mid ((M.bs.take k).map Bat.fresh) []).bs.length by omega)]
      simp
    · unfold Ag.played
      rw [if_pos (show (tookEv b).kind = 0 from rfl)]
      rfl
theorem fresh_ended {b : Bat} {k : Nat} (hf : 0 ≤ b.fl) (hs : b.st = (if k = 1 then 2 else if k = 3 then 3 else 1)) : b.fresh.ended k b.fl.toNat = b := by
  obtain ⟨d, t, i, bo, st, fl⟩ := b
  simp only at hs hf
  subst hs
  simp only [Bat.ended, Bat.fresh, Bat.mk.injEq, true_and]
  omega
/-- An event of one batch, on the way. -/
theorem mid_end {M : Ag} {t : Nat} (h : Inv M t) {q : Nat → Bool} {ds : List Nat} {p k : Nat} {b : Bat} (hb : M.bs[p]? = some b) (hq : q p = false) (hk : k = 1 ∧ b.st = 2 ∨ k = 2 ∧ b.st = 1 ∧ 0 < b.fl ∨ k = 3 ∧ b.st = 3) : Leads2 (M.mid (mix M.bs q) ds) [Ev.of k p b.fl.toNat] (M.mid (mix M.bs (fun i => q i || i == p)) (if k = 3 then ds ++ [p] else ds)) := by
  obtain ⟨_, _, _, _, _, _, hf0, hst⟩ := h.each b (List.mem_of_getElem? hb)
  have hm : (mix M.bs q)[p]? = some b.fresh := by rw [mix_at, hb]; simp [hq]
  have hk0 : k ≠ 0 := by omega
  refine Leads2.one ?_ ?_
  · unfold Ag.canBe
    rw [if_neg (show ¬ (Ev.of k p b.fl.toNat).kind = 0 from hk0)]
    show (match (mix M.bs q)[p]? with | none => false | some b' => decide (b'.st = 1) && (if k = 1 then decide (b'.fl + (b.fl.toNat : Int) < M.c.at') else if k = 2 then decide (b'.fl + (b.fl.toNat : Int) < M.c.at') && decide (0 < b.fl.toNat) else if k = 3 then decide (b'.fl + (b.fl.toNat : Int) = M.c.at') else false)) = true
    rw [hm]
    show (decide ((1 : Int) = 1) && (if k = 1 then decide ((0 : Int) + (b.fl.toNat : Int) < M.c.at') else if k = 2 then decide ((0 : Int) + (b.fl.toNat : Int) < M.c.at') && decide (0 < b.fl.toNat) else if k = 3 then decide ((0 : Int) + (b.fl.toNat : Int) = M.c.at') else false)) = true
    rcases hk with ⟨rfl, h1⟩ | ⟨rfl, h1, h2⟩ | ⟨rfl, h1⟩
    · simp; omega
    · simp; omega
    · simp; omega
  · unfold Ag.played
    rw [if_neg (show ¬ (Ev.of k p b.fl.toNat).kind = 0 from hk0)]
    have he : b.fresh.ended k b.fl.toNat = b := fresh_ended hf0 (by rcases hk with ⟨rfl, h1⟩ | ⟨rfl, h1, h2⟩ | ⟨rfl, h1⟩ <;> simp [h1])
    have := mix_end hb hq he
    show ({ M.mid (mix M.bs q) ds with bs := (mix M.bs q).modify p (fun x => x.ended k b.fl.toNat), dead := if k = 3 then ds ++ [p] else ds } : Ag) = _
    rw [this]
    rfl
def endQ (bs : List Bat) (k : Nat) : Nat → Bool := fun i => decide (i < k) && decide ((bs[i]?).map (·.st) ≠ some 3)
theorem endQ_self (bs : List Bat) (k : Nat) : endQ bs k k = false := by simp [endQ]
theorem endQ_other (bs : List Bat) {k i : Nat} (h : i ≠ k) : endQ bs (k + 1) i = endQ bs k i := by
  have e3 : (i < k + 1) = (i < k) := by rw [eq_iff_iff]; omega
  simp [endQ, e3]
theorem mid_ends {M : Ag} {t : Nat} (h : Inv M t) : ∀ k, k ≤ M.bs.length → Leads2 (M.mid (mix M.bs (fun _ => false)) []) (endsOf M.bs k) (M.mid (mix M.bs (endQ M.bs k)) [])
  | 0, _ => by
    have : mix M.bs (endQ M.bs 0) = mix M.bs (fun _ => false) := mix_eq (fun i b _ => by simp [endQ])
    rw [this]
    exact Leads2.nil _
  | k + 1, hk => by
    have ih := mid_ends h k (by omega)
    obtain ⟨b, hb⟩ : ∃ b, M.bs[k]? = some b := ⟨_, List.getElem?_eq_getElem (by omega)⟩
    obtain ⟨_, _, _, _, _, _, hf0, hst⟩ := h.each b (List.mem_of_getElem? hb)
    have hq := endQ_self M.bs k
    have hne : b.st ≠ 3 → mix M.bs (endQ M.bs (k + 1)) = mix M.bs (fun i => endQ M.bs k i || i == k) := fun h3 => mix_eq (fun i x hx => by
      by_cases e : i = k
      · subst e
        have : endQ M.bs (i + 1) i = true := by simp [endQ, hb, h3]
        simp [this]
      · have e2 : (i == k) = false := by simpa using e
        rw [endQ_other M.bs e, e2, Bool.or_false])
    unfold endsOf
    rw [hb]
    simp only
    refine ih.append ?_
    unfold endEv
    by_cases h2 : b.st = 2
    · rw [if_pos h2, hne (by omega)]
      have := mid_end (q := endQ M.bs k) (ds := []) (k := 1) h hb hq (Or.inl ⟨rfl, h2⟩)
      rw [if_neg (by omega)] at this
      exact this
    · rw [if_neg h2]
      by_cases h1 : b.st = 1 ∧ 0 < b.fl
      · rw [if_pos h1, hne (by omega)]
        have := mid_end (q := endQ M.bs k) (ds := []) (k := 2) h hb hq (Or.inr (Or.inl ⟨rfl, h1⟩))
        rw [if_neg (by omega)] at this
        exact this
      · rw [if_neg h1]
        have e : mix M.bs (endQ M.bs (k + 1)) = mix M.bs (endQ M.bs k) := mix_eq (fun i x hx => by
          by_cases e : i = k
          · subst e
            rw [hb] at hx
            cases hx
            rcases hst with ⟨a1, _⟩ | ⟨a1, _⟩ | ⟨a1, _⟩
            · have hz : b.fl = 0 := by omega
              have hfr : b.fresh = b := by
                obtain ⟨d, t, i, bo, st, fl⟩ := b
                simp only at a1 hz
                subst a1 hz
                rfl
              simp [hfr]
            · exact absurd a1 h2
            · have : endQ M.bs (i + 1) i = false := by simp [endQ, hb, a1]
              rw [this, hq]
          · rw [endQ_other M.bs e])
        rw [e]
        exact Leads2.nil _
def deadQ (bs : List Bat) (ds : List Nat) : Nat → Bool := fun i => decide ((bs[i]?).map (·.st) ≠ some 3) || decide (i ∈ ds)
theorem mid_died {M : Ag} {t : Nat} (h : Inv M t) : ∀ j, j ≤ M.dead.length → Leads2 (M.mid (mix M.bs (deadQ M.bs [])) []) ((M.dead.take j).map (diedEv M.bs)) (M.mid (mix M.bs (deadQ M.bs (M.dead.take j))) (M.dead.take j))
  | 0, _ => Leads2.nil _
  | j + 1, hj => by
    have ih := mid_died h j (by omega)
    obtain ⟨p, hp⟩ : ∃ p, M.dead[j]? = some p := ⟨_, List.getElem?_eq_getElem (by omega)⟩
    obtain ⟨b, hb, hst⟩ := (h.dead p).1 (List.mem_of_getElem? hp)
    have hsp : M.dead.take (j + 1) = M.dead.take j ++ [p] := by rw [List.take_add_one, hp]; rfl
    have hpn : p ∉ M.dead.take j := fun hm => by
      have h1 : (M.dead.take (j + 1)).Nodup := h.ddn.sublist (List.take_sublist _ _)
      rw [hsp, List.nodup_append] at h1
      exact h1.2.2 p hm p (by simp) rfl
    have hq : deadQ M.bs (M.dead.take j) p = false := by simp [deadQ, hb, hst, hpn]
    rw [hsp, List.map_append]
    refine ih.append ?_
    have hev : [p].map (diedEv M.bs) = [Ev.of 3 p b.fl.toNat] := by simp [diedEv, hb]
    rw [hev]
    have := mid_end (q := deadQ M.bs (M.dead.take j)) (ds := M.dead.take j) (k := 3) h hb hq (Or.inr (Or.inr ⟨rfl, hst⟩))
    rw [if_pos rfl] at this
    have e : mix M.bs (deadQ M.bs (M.dead.take j ++ [p])) = mix M.bs (fun i => deadQ M.bs (M.dead.take j) i || i == p) := mix_eq (fun i x _ => by
      have : deadQ M.bs (M.dead.take j ++ [p]) i = (deadQ M.bs (M.dead.take j) i || i == p) := by
        by_cases e : i = p
        · subst e; simp [deadQ]
        · have e2 : (i == p) = false := by simpa using e
          simp [deadQ, e]
      rw [this])
    rw [e]
    exact this
/-- The short way leads there. -/
theorem way_leads {M : Ag} {t : Nat} (h : Inv M t) (hid : IdsOk M.bs) : Leads2 (Ag.new M.c M.D M.ns) M.way M.core := by
  have h1 := mid_took h hid M.bs.length (Nat.le_refl _)
  rw [List.take_length] at h1
  have h2 := mid_ends h M.bs.length (Nat.le_refl _)
  have h3 := mid_died h M.dead.length (Nat.le_refl _)
  rw [List.take_length] at h3
  have e1 : mix M.bs (fun _ => false) = M.bs.map Bat.fresh := by
    apply List.ext_getElem?
    intro i
    rw [mix_at, List.getElem?_map]
    cases M.bs[i]? <;> rfl
  rw [e1] at h2
  have e2 : mix M.bs (endQ M.bs M.bs.length) = mix M.bs (deadQ M.bs []) := mix_eq (fun i b hb => by
    have := (List.getElem?_eq_some_iff.1 hb).1
    simp [endQ, deadQ, this])
  rw [e2] at h2
  have e3 : mix M.bs (deadQ M.bs M.dead) = M.bs := mix_all (fun i b hb => by
    by_cases hs : b.st = 3
    · have : i ∈ M.dead := (h.dead i).2 ⟨b, hb, hs⟩
      simp [deadQ, this]
    · simp [deadQ, hb, hs])
  rw [e3] at h3
  exact (h1.append h2).append h3
/-- The log of a Compact leads to the same. -/
theorem LInv.compacted {M : Ag} {t : Nat} (h : LInv M) (hi : Inv M t) (hid : IdsOk M.bs) : LInv M.compacted := by
  obtain ⟨w1, w2⟩ := way_leads hi hid
  refine ⟨?_, h.quota⟩
  show Leads (Ag.new M.c M.D M.ns) 0 (recB 61 M.way) M.core
  by_cases hw : M.way = []
  · rw [hw] at w2
    have e : recB 61 M.way = [] := by unfold recB; rw [if_pos hw]
    rw [e, ← w2]
    exact Leads.refl _ _
  · have hl := hi.compacted_len
    unfold recB at hl
    rw [if_neg hw, List.length_append] at hl
    have := Leads.record (M := Ag.new M.c M.D M.ns) (n := 0) (by' := 61) hw hi.tell (by omega) w1 (by simp [mayStand]) (by rw [w2]; exact (quota_core M).2 h.quota)
    rw [w2] at this
    exact this
/-- How long it is at the most. -/
def mostOf (bs : List Bat) : Nat := (bs.map (fun b => 16 + b.id.length + b.ten.length + b.body.length)).sum
theorem took_len : ∀ bs : List Bat, ((bs.map tookEv).flatMap Ev.bytes).length + 11 * bs.length ≤ mostOf bs
  | [] => by simp [mostOf]
  | b :: bs => by
    have ih := took_len bs
    have h1 : (tookEv b).bytes.length = 5 + (b.ten.length + b.id.length + b.body.length) := by
      unfold Ev.bytes
      rw [if_pos (show (tookEv b).kind = 0 from rfl)]
      simp [tookEv, evBytes, evParts, part]
      omega
    simp only [mostOf, List.map_cons, List.flatMap_cons, List.length_append, List.sum_cons, List.length_cons] at ih ⊢
    omega
theorem small_len {es : List Ev} (h : ∀ e ∈ es, e.kind ≠ 0) : (es.flatMap Ev.bytes).length = 3 * es.length := by
  induction es with
  | nil => rfl
  | cons e es ih =>
    rw [List.flatMap_cons, List.length_append, ih (fun x hx => h x (List.mem_cons_of_mem _ hx))]
    have : e.bytes.length = 3 := by unfold Ev.bytes; rw [if_neg (h e (by simp))]; rfl
    rw [this, List.length_cons]
    omega
theorem ends_kind (bs : List Bat) : ∀ k, ∀ e ∈ endsOf bs k, e.kind ≠ 0
  | 0, e, he => by cases he
  | k + 1, e, he => by
    unfold endsOf at he
    rcases List.mem_append.1 he with h | h
    · exact ends_kind bs k e h
    · cases hb : bs[k]? with
      | none => rw [hb] at h; cases h
      | some b =>
        rw [hb] at h
        simp only [endEv] at h
        split at h
        · obtain rfl := List.mem_singleton.1 h; simp [Ev.of]
        · split at h
          · obtain rfl := List.mem_singleton.1 h; simp [Ev.of]
          · cases h
theorem Inv.short_len {M : Ag} {t : Nat} (h : Inv M t) : (recB 61 M.way).length ≤ 16 + mostOf M.bs := by
  have h1 := took_len M.bs
  have h2 := small_len (ends_kind M.bs M.bs.length)
  have h3 := endsOf_le M.bs M.bs.length
  have h4 := small_len (es := M.dead.map (diedEv M.bs)) (fun e he => by obtain ⟨p, _, rfl⟩ := List.mem_map.1 he; simp [diedEv, Ev.of])
  have h5 := nodup_le M.bs.length M.dead h.ddn (fun p hp => by obtain ⟨b, hb, _⟩ := (h.dead p).1 hp; exact (List.getElem?_eq_some_iff.1 hb).1)
  rw [List.length_map] at h4
  unfold recB
  split
  · simp
  · rw [List.length_append]
    unfold Ag.way
    rw [List.flatMap_append, List.flatMap_append, List.length_append, List.length_append]
    simp only [List.length_cons, List.length_nil]
    omega

/-! ### How much of what lasts there is -/
def lastsOf (bs : List Bat) : Int := (bs.map fun b => 100 + 20 * b.st + b.fl).sum
theorem lastsOf_bd (bs : List Bat) (h : ∀ b ∈ bs, 0 ≤ b.st ∧ b.st ≤ 3 ∧ 0 ≤ b.fl ∧ b.fl ≤ 10) : 0 ≤ lastsOf bs ∧ lastsOf bs ≤ 200 * bs.length := by
  induction bs with
  | nil => simp [lastsOf]
  | cons b l ih =>
    have h1 := ih (fun x hx => h x (by simp [hx]))
    have h2 := h b (by simp)
    unfold lastsOf at *
    simp only [List.map_cons, List.sum_cons, List.length_cons]
    omega
theorem lastsOf_snoc (bs : List Bat) (b : Bat) : lastsOf (bs ++ [b]) = lastsOf bs + (100 + 20 * b.st + b.fl) := by simp [lastsOf]
theorem lastsOf_set : ∀ (bs : List Bat) (p : Nat) (b b' : Bat), bs[p]? = some b → lastsOf (bs.set p b') = lastsOf bs - (100 + 20 * b.st + b.fl) + (100 + 20 * b'.st + b'.fl)
  | [], p, b, b', h => by simp at h
  | x :: l, 0, b, b', h => by
    simp at h
    subst h
    simp only [lastsOf, List.set_cons_zero, List.map_cons, List.sum_cons]
    omega
  | x :: l, p + 1, b, b', h => by
    have ih := lastsOf_set l p b b' (by simpa using h)
    simp only [lastsOf, List.set_cons_succ, List.map_cons, List.sum_cons] at ih ⊢
    omega

/-- A call has added one record, or nothing of what lasts has changed. -/
structure Grew (M M' : Ag) : Prop where
  c : M'.c = M.c
  D : M'.D = M.D
  ns : M'.ns = M.ns
  or : (M'.bs = M.bs ∧ M'.dead = M.dead ∧ M'.log = M.log) ∨ ∃ es, es ≠ [] ∧ (es.flatMap Ev.bytes).length < 65536 ∧ M'.log = M.log ++ recB 43 es ∧ lastsOf M.bs < lastsOf M'.bs
theorem Grew.refl (M : Ag) : Grew M M := ⟨rfl, rfl, rfl, Or.inl ⟨rfl, rfl, rfl⟩⟩

theorem over_lasts {M : Ag} {d : Nat} {o : Out} {p : Nat} {b : Bat} {r : Ret} {draw : Int} (h : SetOk M d o p b r draw) (hst : b.st = 1) (good : Bool) : lastsOf M.bs < lastsOf (M.over d good draw).bs := by
  rw [over_eq h good]
  show _ < lastsOf (M.bs.set p _)
  rw [lastsOf_set _ p b _ h.hb]
  cases good
  · by_cases hx : M.c.at' ≤ b.fl + 1
    · simp only [Bool.false_eq_true, if_false, if_pos hx]
      simp [Bat.ended]
      omega
    · simp only [Bool.false_eq_true, if_false, if_neg hx]
      simp [Bat.ended]
      omega
  · simp only [if_true]
    simp [Bat.ended]
    omega
theorem grew_replied {M : Ag} {t d : Nat} {o : Out} {draw : Int} (hi : Inv M t) (ht : t ≤ 10000000000000) (hd : 0 ≤ draw) (ho : M.os[d]? = some o) (hw : o.way ≠ -1) (good : Bool) : Grew M (M.replied d good draw) := by
  obtain ⟨p, b, r, hs, hst, _, hfl⟩ := hi.setOk ht hd ho hw
  obtain ⟨k, hk, hk0, f, e⟩ := replied_eq hs good
  have hl := over_lasts hs hst good
  rw [e]
  refine ⟨by rw [over_eq hs good], by rw [over_eq hs good], by rw [over_eq hs good], Or.inr ⟨[Ev.of k p f], by simp, ?_, rfl, hl⟩⟩
  simp [Ev.of, Ev.bytes, hk0]
theorem overs_lasts {M : Ag} {t : Nat} {draw : Int} (hi : Inv M t) (ht : t ≤ 10000000000000) (hd : 0 ≤ draw) : ∀ k, (M.overs draw k).c = M.c ∧ (M.overs draw k).D = M.D ∧ (M.overs draw k).ns = M.ns ∧ (((M.overs draw k).bs = M.bs ∧ (M.overs draw k).dead = M.dead ∧ (M.gaveUp draw k).2 = []) ∨ (lastsOf M.bs < lastsOf (M.overs draw k).bs ∧ (M.gaveUp draw k).2 ≠ []))
  | 0 => ⟨rfl, rfl, rfl, Or.inl ⟨rfl, rfl, rfl⟩⟩
  | k + 1 => by
    obtain ⟨h1, h2, h3, h4⟩ := overs_lasts hi ht hd k
    obtain ⟨i1, i2, _, _, i5, i6⟩ := overs_os hi ht hd k
    unfold Ag.overs Ag.gaveUp
    cases ho : M.os[k]? with
    | none => exact ⟨h1, h2, h3, h4⟩
    | some o =>
      simp only
      by_cases hc : o.way ≠ -1 ∧ M.c.ti ≤ M.now - o.began
      · rw [if_pos hc, if_pos hc]
        have ho' : (M.overs draw k).os[k]? = some o := (i2 k (Nat.le_refl _)).trans ho
        obtain ⟨p, b, r, hs, hst, _, hfl⟩ := i1.setOk ht hd ho' hc.1
        have hl := over_lasts hs hst false
        have e := over_eq hs false
        refine ⟨by rw [e]; exact h1, by rw [e]; exact h2, by rw [e]; exact h3, Or.inr ⟨?_, by simp⟩⟩
        rcases h4 with ⟨q1, _, _⟩ | ⟨q1, _⟩
        · rw [q1] at hl; exact hl
        · omega
      · rw [if_neg hc, if_neg hc]
        exact ⟨h1, h2, h3, h4⟩
theorem grew_timed {M : Ag} {t : Nat} {draw : Int} (hi : Inv M t) (ht : t ≤ 10000000000000) (hd : 0 ≤ draw) : Grew M (M.timed draw) := by
  have hg := hi.giveOk ht hd
  obtain ⟨h1, h2, h3, h4⟩ := overs_lasts hi ht hd M.os.length
  have hcan := gaveUp_can hg hi.b120 M.os.length
  have hlen := gaveUp_len (M := M) (draw := draw) M.os.length
  rw [timed_eq hg]
  refine ⟨h1, h2, h3, ?_⟩
  rcases h4 with ⟨q1, q2, q3⟩ | ⟨q1, q2⟩
  · refine Or.inl ⟨q1, q2, ?_⟩
    show M.log ++ recB 43 (M.gaveUp draw M.os.length).2 = M.log
    rw [q3]
    simp [recB]
  · refine Or.inr ⟨_, q2, ?_, rfl, q1⟩
    have := tell_len _ (fun e he => (hcan e he).2.2)
    have := hg.o4
    omega
theorem grew_ticked {M : Ag} {t : Nat} {ms draw : Int} (hi : Inv M t) (ht : t + 1 ≤ 10000000000000) (h0 : 0 ≤ ms) (h1 : ms ≤ 60000) (hd : 0 ≤ draw) : Grew M (M.ticked ms draw).1 := by
  obtain ⟨g1, g2, g3, g4⟩ := grew_timed (hi.later h0 h1) ht hd
  obtain ⟨k1, k2, k3, k4, k5, k6⟩ := sentOut_same ((M.later ms).timed draw) ((M.later ms).timed draw).os.length
  refine ⟨k1.trans g1, k2.trans g2, k3.trans g3, ?_⟩
  rcases g4 with ⟨a, b, c⟩ | ⟨es, a, b, c, d⟩
  · exact Or.inl ⟨k4.trans a, k5.trans b, k6.trans c⟩
  · exact Or.inr ⟨es, a, b, k6.trans c, by rw [show (M.ticked ms draw).1.bs = ((M.later ms).timed draw).bs from k4]; exact d⟩
theorem grew_submitted {M : Ag} {t : Nat} (hi : Inv M t) (b : Bat) : Grew M (M.submitted b) := by
  unfold Ag.submitted
  by_cases h0 : M.refusal b = 0
  · rw [if_pos h0]
    obtain ⟨r1, r2, r3, r4, r5, r6, r7⟩ := refusal_zero h0
    have hid : 1 ≤ b.id.length ∧ b.id.length ≤ 16 := by simp [inB] at r3; omega
    have hten := (hi.sl _ ((hi.hs _).2 r2)).2
    refine ⟨rfl, rfl, rfl, Or.inr ⟨[tookEv b], by simp, ?_, ?_, ?_⟩⟩
    · have := evBytes_le b hten hid.2 r4
      simp [Ev.bytes, tookEv]
      omega
    · show M.log ++ recBytes b = _
      rw [recBytes_rec b hten hid.2 r4]
    · show _ < lastsOf (M.bs ++ [b.fresh])
      rw [lastsOf_snoc]
      simp [Bat.fresh]
      omega
  · rw [if_neg h0]
    exact Grew.refl M

/-! ### Ids -/
theorem ids_same {a b : List Bat} (h : a.map (·.id) = b.map (·.id)) (hi : IdsOk a) : IdsOk b := fun i j x y hx hy e => by
  have key : ∀ (k : Nat) z, b[k]? = some z → ∃ z', a[k]? = some z' ∧ z'.id = z.id := fun k z hz => by
    have : (b.map (·.id))[k]? = some z.id := by rw [List.getElem?_map, hz]; rfl
    rw [← h, List.getElem?_map, Option.map_eq_some_iff] at this
    exact this
  obtain ⟨x', hx', ex⟩ := key i x hx
  obtain ⟨y', hy', ey⟩ := key j y hy
  exact hi i j x' y' hx' hy' (by rw [ex, ey, e])
theorem set_ids {bs : List Bat} {p : Nat} {b b' : Bat} (h : bs[p]? = some b) (e : b'.id = b.id) : (bs.set p b').map (·.id) = bs.map (·.id) := by
  rw [List.map_set, e]
  obtain ⟨hp, rfl⟩ := List.getElem?_eq_some_iff.1 h
  apply List.ext_getElem?
  intro i
  by_cases hi : i = p
  · subst hi; rw [List.getElem?_set_self (by simpa using hp)]; simp [hp]
  · rw [List.getElem?_set_ne (fun e => hi e.symm)]
theorem over_ids {M : Ag} {d : Nat} {o : Out} {p : Nat} {b : Bat} {r : Ret} {draw : Int} (h : SetOk M d o p b r draw) (good : Bool) : (M.over d good draw).bs.map (·.id) = M.bs.map (·.id) := by
  rw [over_eq h good]
  refine set_ids h.hb ?_
  cases good
  · by_cases hx : M.c.at' ≤ b.fl + 1
    · simp only [Bool.false_eq_true, if_false, if_pos hx]; rfl
    · simp only [Bool.false_eq_true, if_false, if_neg hx]; rfl
  · rfl
theorem overs_ids {M : Ag} {t : Nat} {draw : Int} (hi : Inv M t) (ht : t ≤ 10000000000000) (hd : 0 ≤ draw) : ∀ k, (M.overs draw k).bs.map (·.id) = M.bs.map (·.id)
  | 0 => rfl
  | k + 1 => by
    have ih := overs_ids hi ht hd k
    obtain ⟨i1, i2, _, _, i5, i6⟩ := overs_os hi ht hd k
    unfold Ag.overs
    cases ho : M.os[k]? with
    | none => exact ih
    | some o =>
      simp only
      by_cases hc : o.way ≠ -1 ∧ M.c.ti ≤ M.now - o.began
      · rw [if_pos hc]
        obtain ⟨p, b, r, hs, hst, _, hfl⟩ := i1.setOk ht hd ((i2 k (Nat.le_refl _)).trans ho) hc.1
        exact (over_ids hs false).trans ih
      · rw [if_neg hc]; exact ih
theorem IdsOk.replied {M : Ag} {t d : Nat} {o : Out} {draw : Int} (h : IdsOk M.bs) (hi : Inv M t) (ht : t ≤ 10000000000000) (hd : 0 ≤ draw) (ho : M.os[d]? = some o) (hw : o.way ≠ -1) (good : Bool) : IdsOk (M.replied d good draw).bs := by
  obtain ⟨p, b, r, hs, hst, _, hfl⟩ := hi.setOk ht hd ho hw
  obtain ⟨k, _, _, f, e⟩ := replied_eq hs good
  rw [e]
  exact ids_same (over_ids hs good).symm h
theorem IdsOk.ticked {M : Ag} {t : Nat} {ms draw : Int} (h : IdsOk M.bs) (hi : Inv M t) (ht : t + 1 ≤ 10000000000000) (h0 : 0 ≤ ms) (h1 : ms ≤ 60000) (hd : 0 ≤ draw) : IdsOk (M.ticked ms draw).1.bs := by
  obtain ⟨_, _, _, k4, _, _⟩ := sentOut_same ((M.later ms).timed draw) ((M.later ms).timed draw).os.length
  have hl := hi.later h0 h1
  have e : (M.ticked ms draw).1.bs = ((M.later ms).timed draw).bs := k4
  rw [e, timed_eq (hl.giveOk ht hd)]
  exact ids_same (overs_ids hl ht hd _).symm h
theorem IdsOk.submitted {M : Ag} (h : IdsOk M.bs) (b : Bat) : IdsOk (M.submitted b).bs := by
  unfold Ag.submitted
  by_cases h0 : M.refusal b = 0
  · rw [if_pos h0]
    obtain ⟨_, _, _, _, r5, _, _⟩ := refusal_zero h0
    have hno : ∀ (i : Nat) x, M.bs[i]? = some x → x.id ≠ b.id := fun i x hx e => by
      rcases findId_cases M.bs b.id with ⟨_, hq⟩ | ⟨i', _, hq, _⟩
      · exact absurd e (by have := hq x (List.mem_of_getElem? hx); simpa using this)
      · rw [r5] at hq; omega
    intro i j x y hx hy e
    have hx' : (M.bs ++ [b.fresh])[i]? = some x := hx
    have hy' : (M.bs ++ [b.fresh])[j]? = some y := hy
    have last : ∀ (i : Nat) z, ¬ i < M.bs.length → (M.bs ++ [b.fresh])[i]? = some z → i = M.bs.length ∧ z.id = b.id := fun i z hl hz => by
      rw [List.getElem?_append_right (by omega)] at hz
      have e0 : i - M.bs.length = 0 := by have := (List.getElem?_eq_some_iff.1 hz).1; simp at this; omega
      rw [e0] at hz
      simp at hz
      subst hz
      exact ⟨by omega, rfl⟩
    by_cases hi : i < M.bs.length
    · rw [List.getElem?_append_left hi] at hx'
      by_cases hj : j < M.bs.length
      · rw [List.getElem?_append_left hj] at hy'
        exact h i j x y hx' hy' e
      · exact absurd (e.trans (last j y hj hy').2) (hno i x hx')
    · by_cases hj : j < M.bs.length
      · rw [List.getElem?_append_left hj] at hy'
        exact absurd (e.symm.trans (last i x hi hx').2) (hno j y hy')
      · rw [(last i x hi hx').1, (last j y hj hy').1]
  · rw [if_neg h0]
    exact h

/-! ### A log that is cut -/
theorem short_cut {es : List Ev} (hne : es ≠ []) (hl : (es.flatMap Ev.bytes).length < 65536) {k : Nat} (h0 : 0 < k) (hk : k < (recB 43 es).length) : (Rd.record ⟨(recB 43 es).take k, false⟩).2.2.short = true ∧ (Rd.record ⟨(recB 43 es).take k, false⟩).1 = 43 := by
  unfold recB at hk ⊢
  rw [if_neg hne] at hk ⊢
  generalize es.flatMap Ev.bytes = body at *
  have hlen : ([43, UInt8.ofNat (body.length / 256), UInt8.ofNat (body.length % 256)] ++ body).length = 3 + body.length := by simp; omega
  rw [hlen] at hk
  match k, h0 with
  | 1, _ => exact ⟨by simp [Rd.record, Rd.number, Rd.piece], by simp [Rd.record, Rd.number]⟩
  | 2, _ => 
    refine ⟨?_, by simp [Rd.record, Rd.number]⟩
    simp only [Rd.record, Rd.number, List.cons_append, List.nil_append, List.take_succ_cons, List.take_zero]
    unfold Rd.piece
    split <;> simp
  | k + 3, _ =>
    refine ⟨?_, by simp [Rd.record, Rd.number]⟩
    simp only [Rd.record, Rd.number, List.cons_append, List.nil_append, List.take_succ_cons]
    have e : (UInt8.ofNat (body.length / 256)).toNat * 256 + (UInt8.ofNat (body.length % 256)).toNat = body.length := by
      rw [ofNat_toNat (by omega), ofNat_toNat (by omega)]
      omega
    rw [e]
    unfold Rd.piece
    rw [if_pos (by rw [List.length_take]; omega)]
theorem replays_cut {M : Ag} {n : Nat} {rest : List UInt8} {res : Option (Ag × Nat)} (h : Replays M n rest res) (hc : rest = [] ∨ ((Rd.record ⟨rest, false⟩).2.2.short = true ∧ (Rd.record ⟨rest, false⟩).1 = 43)) : res = some (M, n) := by
  cases h <;> first | rfl | (rcases hc with hc | hc <;> contradiction)

/-- A stand: how long the log was, and what lasts of the agent then. -/
structure StD where
  n : Nat
  rs : List RBat
  dead : List Nat
/-- The agent of a stand. -/
structure StOk (t : Nat) (c : Cfg) (D : DataW Unit) (ns : List (List UInt8)) (lg : List UInt8) (s : StD) (Mj : Ag) : Prop where
  inv : Inv Mj t
  linv : LInv Mj
  ids : IdsOk Mj.bs
  log : Mj.log = lg.take s.n
  le : s.n ≤ lg.length
  bs : Mj.bs = s.rs.map (·.b)
  dead : Mj.dead = s.dead
  c : Mj.c = c
  D : Mj.D = D
  ns : Mj.ns = ns
/-- The stands of a log. -/
structure Stands (t : Nat) (c : Cfg) (D : DataW Unit) (ns : List (List UInt8)) (log : List UInt8) (sts : List StD) : Prop where
  ok : ∀ s ∈ sts, ∃ Mj, StOk t c D ns log s Mj
  next : ∀ (j : Nat) (s s' : StD), sts[j]? = some s → sts[j + 1]? = some s' → ∃ es, es ≠ [] ∧ (es.flatMap Ev.bytes).length < 65536 ∧ log.take s'.n = log.take s.n ++ recB 43 es
  last : ∃ s, sts[sts.length - 1]? = some s ∧ s.n = log.length
theorem Stands.more {t t' : Nat} {c : Cfg} {D : DataW Unit} {ns : List (List UInt8)} {log : List UInt8} {sts : List StD} (h : Stands t c D ns log sts) (ht : t ≤ t') : Stands t' c D ns log sts :=
  ⟨fun s hs => by obtain ⟨Mj, q⟩ := h.ok s hs; exact ⟨Mj, q.inv.more ht, q.linv, q.ids, q.log, q.le, q.bs, q.dead, q.c, q.D, q.ns⟩, h.next, h.last⟩
theorem Stands.pos {t : Nat} {c : Cfg} {D : DataW Unit} {ns : List (List UInt8)} {log : List UInt8} {sts : List StD} (h : Stands t c D ns log sts) : 0 < sts.length := by
  obtain ⟨s, hs, _⟩ := h.last
  have := (List.getElem?_eq_some_iff.1 hs).1
  omega
theorem Stands.lt {t : Nat} {c : Cfg} {D : DataW Unit} {ns : List (List UInt8)} {log : List UInt8} {sts : List StD} (h : Stands t c D ns log sts) {j : Nat} {s s' : StD} (hs : sts[j]? = some s) (hs' : sts[j + 1]? = some s') : s.n < s'.n := by
  obtain ⟨es, e1, _, e3⟩ := h.next j s s' hs hs'
  obtain ⟨_, q⟩ := h.ok s (List.mem_of_getElem? hs)
  obtain ⟨_, q'⟩ := h.ok s' (List.mem_of_getElem? hs')
  have := congrArg List.length e3
  rw [List.length_append, List.length_take, List.length_take] at this
  have h3 : 0 < (recB 43 es).length := by unfold recB; rw [if_neg e1]; simp
  have := q.le
  have := q'.le
  omega
/-- Open of a log that is cut behind stand j, ahead of the next. -/
theorem Stands.cut {t : Nat} {c : Cfg} {D : DataW Unit} {ns : List (List UInt8)} {log : List UInt8} {sts : List StD} (h : Stands t c D ns log sts) {j n : Nat} {s : StD} (hs : sts[j]? = some s) (hn : s.n ≤ n) (hl : n ≤ log.length) (hx : ∀ s', sts[j + 1]? = some s' → n < s'.n) {Mj : Ag} (hj : StOk t c D ns log s Mj) {res : Option (Ag × Nat)} (hr : Replays (Ag.new c D ns) 0 (log.take n) res) : res = some (Mj.core, s.n) := by
  have e0 : log.take n = log.take s.n ++ (log.take n).drop s.n := by
    conv => lhs; rw [← List.take_append_drop s.n (log.take n)]
    rw [List.take_take, Nat.min_eq_left hn]
  rw [e0, ← hj.log] at hr
  have hlead := hj.linv.log
  rw [hj.c, hj.D, hj.ns] at hlead
  have h2 := hlead _ _ hr
  have hln : Mj.log.length = s.n := by rw [hj.log, List.length_take]; have := hj.le; omega
  rw [Nat.zero_add, hln] at h2
  refine replays_cut h2 ?_
  by_cases he : (log.take n).drop s.n = []
  · exact Or.inl he
  · refine Or.inr ?_
    have hlt : s.n < n := by
      rcases Nat.lt_or_ge s.n n with q | q
      · exact q
      · exact absurd (List.drop_eq_nil_of_le (by rw [List.length_take]; omega)) he
    obtain ⟨s', hs'⟩ : ∃ s', sts[j + 1]? = some s' := by
      by_cases hjl : j + 1 < sts.length
      · exact ⟨_, List.getElem?_eq_getElem hjl⟩
      · obtain ⟨sl, hsl, hsn⟩ := h.last
        have hjl2 := (List.getElem?_eq_some_iff.1 hs).1
        rw [show sts.length - 1 = j by omega, hs] at hsl
        cases hsl
        omega
    have hns := hx s' hs'
    obtain ⟨es, e1, e2, e3⟩ := h.next j s s' hs hs'
    obtain ⟨_, q'⟩ := h.ok s' (List.mem_of_getElem? hs')
    have e4 : (log.take n).drop s.n = (recB 43 es).take (n - s.n) := by
      have : log.take n = (log.take s'.n).take n := by rw [List.take_take, Nat.min_eq_left (by omega)]
      rw [this, e3, List.take_append, List.drop_append]
      have hl1 : (log.take s.n).length = s.n := by rw [List.length_take]; have := hj.le; omega
      rw [List.take_of_length_le (by omega), List.drop_eq_nil_of_le (by omega), hl1, List.nil_append]
      rw [show s.n - s.n = 0 by omega, List.drop_zero]
    rw [e4]
    refine short_cut e1 e2 (by omega) ?_
    have := congrArg List.length e3
    rw [List.length_append, List.length_take, List.length_take] at this
    have := hj.le
    have := q'.le
    omega
/-- A record more. -/
theorem Stands.snoc {t : Nat} {M M' : Ag} {log : List UInt8} {sts : List StD} {c : Cfg} {D : DataW Unit} {ns : List (List UInt8)} (h : Stands t c D ns log sts) {s : StD} {es : List Ev} (hes : es ≠ []) (hb : (es.flatMap Ev.bytes).length < 65536) (hl : log = M.log) (hlog : M'.log = M.log ++ recB 43 es) (hs : StOk t c D ns M'.log s M') (hn : s.n = M'.log.length) : Stands t c D ns M'.log (sts ++ [s]) := by
  subst hl
  refine ⟨fun x hx => ?_, fun j a b ha hb' => ?_, ⟨s, by simp, hn⟩⟩
  · rcases List.mem_append.1 hx with q | q
    · obtain ⟨Mj, r⟩ := h.ok x q
      exact ⟨Mj, r.inv, r.linv, r.ids, by rw [r.log, hlog, List.take_append_of_le_length r.le], by rw [hlog, List.length_append]; have := r.le; omega, r.bs, r.dead, r.c, r.D, r.ns⟩
    · rw [List.mem_singleton.1 q]; exact ⟨M', hs⟩
  · by_cases hj : j + 1 < sts.length
    · rw [List.getElem?_append_left (by omega)] at ha
      rw [List.getElem?_append_left hj] at hb'
      obtain ⟨e, e1, e2, e3⟩ := h.next j a b ha hb'
      obtain ⟨_, ra⟩ := h.ok a (List.mem_of_getElem? ha)
      obtain ⟨_, rb⟩ := h.ok b (List.mem_of_getElem? hb')
      exact ⟨e, e1, e2, by rw [hlog, List.take_append_of_le_length ra.le, List.take_append_of_le_length rb.le]; exact e3⟩
    · have hjl := (List.getElem?_eq_some_iff.1 hb').1
      rw [List.length_append, List.length_singleton] at hjl
      have hp := h.pos
      obtain ⟨sl, hsl, hsn⟩ := h.last
      rw [List.getElem?_append_left (by omega), show j = sts.length - 1 by omega, hsl] at ha
      cases ha
      rw [show j + 1 = sts.length by omega, List.getElem?_append_right (Nat.le_refl _), Nat.sub_self] at hb'
      simp at hb'
      subst hb'
      refine ⟨es, hes, hb, ?_⟩
      rw [hn, hsn, List.take_of_length_le (Nat.le_refl _), hlog, List.take_append_of_le_length (Nat.le_refl _), List.take_of_length_le (Nat.le_refl _)]
theorem Stands.mono {t : Nat} {c : Cfg} {D : DataW Unit} {ns : List (List UInt8)} {log : List UInt8} {sts : List StD} (h : Stands t c D ns log sts) : ∀ (d i : Nat) (x s : StD), sts[i]? = some x → sts[i + d]? = some s → x.n ≤ s.n
  | 0, i, x, s, hx, hs => by rw [Nat.add_zero, hx] at hs; cases hs; exact Nat.le_refl _
  | d + 1, i, x, s, hx, hs => by
    have hl := (List.getElem?_eq_some_iff.1 hs).1
    obtain ⟨y, hy⟩ : ∃ y, sts[i + d]? = some y := ⟨_, List.getElem?_eq_getElem (by omega)⟩
    have h1 := Stands.mono h d i x y hx hy
    have h2 := h.lt hy hs
    omega
/-- Back to stand j. -/
theorem Stands.back {t : Nat} {c : Cfg} {D : DataW Unit} {ns : List (List UInt8)} {log : List UInt8} {sts : List StD} (h : Stands t c D ns log sts) {j : Nat} {s : StD} (hs : sts[j]? = some s) : Stands t c D ns (log.take s.n) (sts.take (j + 1)) := by
  have hjl := (List.getElem?_eq_some_iff.1 hs).1
  obtain ⟨_, rs⟩ := h.ok s (List.mem_of_getElem? hs)
  have hle : ∀ (i : Nat) (x : StD), sts[i]? = some x → i ≤ j → x.n ≤ s.n := fun i x hx hij => by
    exact h.mono (j - i) i x s hx (by rw [show i + (j - i) = j by omega]; exact hs)
  have hget : ∀ (i : Nat) (x : StD), (sts.take (j + 1))[i]? = some x → sts[i]? = some x ∧ i ≤ j := fun i x hx => by
    have hi := (List.getElem?_eq_some_iff.1 hx).1
    rw [List.length_take] at hi
    rw [List.getElem?_take_of_lt (by omega)] at hx
    exact ⟨hx, by omega⟩
  refine ⟨fun x hx => ?_, fun i a b ha hb => ?_, ⟨s, ?_, ?_⟩⟩
  · obtain ⟨i, hi, e⟩ := List.getElem_of_mem hx
    obtain ⟨h1, h2⟩ := hget i x (by rw [List.getElem?_eq_getElem hi, e])
    obtain ⟨Mj, r⟩ := h.ok x (List.mem_of_getElem? h1)
    have := hle i x h1 h2
    exact ⟨Mj, r.inv, r.linv, r.ids, by rw [r.log, List.take_take, Nat.min_eq_left this], by rw [List.length_take]; have := r.le; have := rs.le; omega, r.bs, r.dead, r.c, r.D, r.ns⟩
  · obtain ⟨a1, a2⟩ := hget i a ha
    obtain ⟨b1, b2⟩ := hget (i + 1) b hb
    obtain ⟨e, e1, e2, e3⟩ := h.next i a b a1 b1
    exact ⟨e, e1, e2, by rw [List.take_take, List.take_take, Nat.min_eq_left (hle _ _ b1 b2), Nat.min_eq_left (hle _ _ a1 a2)]; exact e3⟩
  · rw [List.length_take, Nat.min_eq_left (by omega), Nat.add_sub_cancel, List.getElem?_take_of_lt (by omega)]
    exact hs
  · rw [List.length_take]; have := rs.le; omega
/-- One stand alone. -/
theorem Stands.one {t : Nat} {M : Ag} {s : StD} {c : Cfg} {D : DataW Unit} {ns : List (List UInt8)} (h : StOk t c D ns M.log s M) (hn : s.n = M.log.length) : Stands t c D ns M.log [s] :=
  ⟨fun x hx => by rw [List.mem_singleton.1 hx]; exact ⟨M, h⟩, fun j a b _ hb => by simp at hb, ⟨s, by simp, hn⟩⟩
end Go.Proofs.YtojpjaifhjigfaaGreatDoor
