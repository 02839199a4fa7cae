/- Steps of the proof (several texts in one): Again2, ADead, AheadWalk. -/
import Derived.Test.YtojpjaifhjigfabGreatDoorMTwo28

/- Again: what two agents of one log do. -/
namespace Go.Proofs.YtojpjaifhjigfabGreatDoor
open Go.RowKit Go.Maps

theorem sentOut_in (X : Ag) : ∀ k, ∀ s ∈ (X.sentOut k).2, ∃ d, d < k ∧ s ∈ (X.sentTo d).2
  | 0, s, hs => by cases hs
  | k + 1, s, hs => by
    rw [sentOut_succ2] at hs
    rcases List.mem_append.1 hs with h | h
    · obtain ⟨d, h1, h2⟩ := sentOut_in X k s h
      exact ⟨d, by omega, h2⟩
    · exact ⟨k, by omega, h⟩
theorem sentTo_try (X : Ag) (d : Nat) : ∀ s ∈ (X.sentTo d).2, ∀ o, (X.sentTo d).1.os[d]? = some o → o.sends = s.try' := fun s hs o ho => by
  unfold Ag.sentTo at hs ho
  cases h0 : X.os[d]? with
  | none => rw [h0] at hs; cases hs
  | some o1 =>
    rw [h0] at hs ho
    simp only at hs ho
    split at hs
    · cases hs
    · rename_i hc
      rw [if_neg hc] at ho
      obtain rfl := List.mem_singleton.1 hs
      have ho2 : (X.os.set d _)[d]? = some o := ho
      rw [List.getElem?_set_self (List.getElem?_eq_some_iff.1 h0).1] at ho2
      cases ho2
      rfl
/-- One tick, when nothing pauses: to each destination for which something waits one goes. -/
structure TickGo (M : Ag) (n : Nat) (x : Ag × List Sd) : Prop where
  liv : Liv x.2 n x.1
  nod : (x.2.map Sd.d).Nodup
  all : ∀ s ∈ x.2, ∃ d : Nat, s.d = (d : Int) ∧ d < M.os.length
  len : x.1.os.length = M.os.length
  tr : ∀ s ∈ x.2, ∀ (d : Nat) (o : Out), s.d = (d : Int) → x.1.os[d]? = some o → o.sends = s.try'
theorem Inv.tickGo {M : Ag} {t n : Nat} {ms : Int} (hi : Inv M t) (hrt0 : ∀ r ∈ M.rt, r.fr ≤ M.now + ms) (hun0 : ∀ o ∈ M.os, o.trip = true → o.unt ≤ M.now + ms) (hidle : ∀ (d : Nat) (o : Out), M.os[d]? = some o → o.way = -1) (h0 : 0 ≤ ms) (hn : ∀ (d : Nat) (o : Out), M.os[d]? = some o → pcount M.bs d ≤ n + 1) : TickGo M n (M.ticked ms 0) := by
  obtain ⟨X, hX⟩ : ∃ X, M.later ms = X := ⟨_, rfl⟩
  have hos : X.os = M.os := by rw [← hX]; rfl
  have hbs : X.bs = M.bs := by rw [← hX]; rfl
  have hns : X.ns = M.ns := by rw [← hX]; rfl
  have hrt : ∀ r ∈ X.rt, r.fr ≤ X.now := fun r hr => by
    rw [← hX] at hr ⊢
    exact hrt0 r hr
  have hun : ∀ o ∈ X.os, o.trip = true → o.unt ≤ X.now := fun o ho => by
    rw [← hX] at ho ⊢
    exact hun0 o ho
  have hnow : 0 ≤ X.now := by rw [← hX]; have := hi.nw0; show 0 ≤ M.now + ms; omega
  have ht : M.ticked ms 0 = X.sentOut M.os.length := by
    unfold Ag.ticked
    rw [hX, timed_idle (M := X) (fun d o ho => hidle d o (by rw [← hos]; exact ho)) 0, hos]
  have hA : ∀ d, pcount M.bs d = 0 → (X.sizes d).all (· == 0) = true := fun d hd => sizes_none (fun b hb hst => pcount_none hd b (by rw [← hbs]; exact hb) hst)
  have hB : ∀ (d : Nat) (o : Out), M.os[d]? = some o → pcount M.bs d ≠ 0 → (X.sentTo d).2.length = 1 ∧ ∃ o' : Out, (X.sentTo d).1.os[d]? = some o' ∧ o'.way ≠ -1 := fun d o ho hd => by
    obtain ⟨b, hb, hst, hdst⟩ := pcount_some hd
    refine sentTo_goes (by rw [hos]; exact ho) (hidle d o ho) (hun o (by rw [hos]; exact List.mem_of_getElem? ho)) (sizes_some (b := b) (by rw [hbs]; exact hb) hst hdst ?_ hrt hnow)
    rw [hns]
    exact (hi.each b hb).2.2.1
  have hS : ∀ k, k ≤ M.os.length → (∀ s ∈ (X.sentOut k).2, ∃ d : Nat, d < k ∧ s.d = (d : Int) ∧ pcount M.bs d ≠ 0) ∧ (∀ d, d < k → pcount M.bs d ≠ 0 → ∃ s ∈ (X.sentOut k).2, s.d = (d : Int)) ∧ ((X.sentOut k).2.map Sd.d).Nodup := fun k => by
    induction k with
    | zero => exact fun _ => ⟨fun s hs => (by cases hs), fun d hd => absurd hd (by omega), List.nodup_nil⟩
    | succ k ih =>
      intro hk
      obtain ⟨i1, i2, i3⟩ := ih (by omega)
      rw [sentOut_succ2]
      obtain ⟨o, ho⟩ : ∃ o, M.os[k]? = some o := ⟨_, List.getElem?_eq_getElem (by omega)⟩
      by_cases hc : pcount M.bs k = 0
      · rw [sentTo_rests (hA k hc), List.append_nil]
        refine ⟨fun s hs => ?_, fun d hd hne => ?_, i3⟩
        · obtain ⟨d, q1, q2⟩ := i1 s hs
          exact ⟨d, by omega, q2⟩
        · refine i2 d ?_ hne
          rcases Nat.lt_or_ge d k with h | h
          · exact h
          · exact absurd ((by omega : d = k) ▸ hc) hne
      · obtain ⟨g1, _⟩ := hB k o ho hc
        obtain ⟨s0, hs0⟩ : ∃ s0, (X.sentTo k).2 = [s0] := List.length_eq_one_iff.1 g1
        have hd0 : s0.d = (k : Int) := sentTo_d X k s0 (by rw [hs0]; simp)
        rw [hs0]
        refine ⟨fun s hs => ?_, fun d hd hne => ?_, ?_⟩
        · rcases List.mem_append.1 hs with hs | hs
          · obtain ⟨d, q1, q2⟩ := i1 s hs
            exact ⟨d, by omega, q2⟩
          · obtain rfl := List.mem_singleton.1 hs
            exact ⟨k, by omega, hd0, hc⟩
        · rcases Nat.lt_or_ge d k with h | h
          · obtain ⟨s, hs, e⟩ := i2 d h hne
            exact ⟨s, List.mem_append_left _ hs, e⟩
          · exact ⟨s0, by simp, by rw [hd0]; omega⟩
        · rw [List.map_append, List.nodup_append]
          refine ⟨i3, by simp, fun a ha b hb e => ?_⟩
          obtain ⟨s, hs, rfl⟩ := List.mem_map.1 ha
          obtain ⟨d, q1, q2, _⟩ := i1 s hs
          simp at hb
          subst hb
          omega
  obtain ⟨s1, s2, s3⟩ := hS M.os.length (Nat.le_refl _)
  obtain ⟨_, _, _, e4, _, _⟩ := sentOut_same X M.os.length
  have hl : (X.sentOut M.os.length).1.os.length = M.os.length := by
    have key : ∀ k, (X.sentOut k).1.os.length = X.os.length := fun k => by
      induction k with
      | zero => rfl
      | succ k ih =>
        show ((X.sentOut k).1.sentTo k).1.os.length = _
        rw [← ih]
        unfold Ag.sentTo
        cases (X.sentOut k).1.os[k]? with
        | none => rfl
        | some o => simp only; split <;> simp
    rw [key, hos]
  rw [ht]
  refine ⟨⟨fun d o ho => ?_, fun d o ho => ?_⟩, s3, fun s hs => ?_, hl, fun s hs d o e ho => ?_⟩
  · have hdl : d < M.os.length := by rw [← hl]; exact (List.getElem?_eq_some_iff.1 ho).1
    obtain ⟨o0, ho0⟩ : ∃ o0, M.os[d]? = some o0 := ⟨_, List.getElem?_eq_getElem hdl⟩
    have hb' : (X.sentOut M.os.length).1.bs = M.bs := e4.trans hbs
    rw [hb']
    by_cases hw : o.way = -1
    · rw [if_pos hw]
      by_cases hc : pcount M.bs d = 0
      · omega
      · obtain ⟨_, o', g2, g3⟩ := hB d o0 ho0 hc
        have ho2 : (X.sentOut M.os.length).1.os[d]? = some o := ho
        rw [sentOut_at X M.os.length d hdl, g2] at ho2
        cases ho2
        exact absurd hw g3
    · rw [if_neg hw]
      exact hn d o0 ho0
  · have hdl : d < M.os.length := by rw [← hl]; exact (List.getElem?_eq_some_iff.1 ho).1
    obtain ⟨o0, ho0⟩ : ∃ o0, M.os[d]? = some o0 := ⟨_, List.getElem?_eq_getElem hdl⟩
    have ho2 : (X.sentOut M.os.length).1.os[d]? = some o := ho
    rw [sentOut_at X M.os.length d hdl] at ho2
    by_cases hc : pcount M.bs d = 0
    · rw [sentTo_rests1 (hA d hc), hos, ho0] at ho2
      cases ho2
      refine ⟨fun h => absurd (hidle d _ ho0) h, fun ⟨s, hs, e⟩ => ?_⟩
      obtain ⟨d', _, q2, q3⟩ := s1 s hs
      have : d' = d := by omega
      subst this
      exact absurd hc q3
    · obtain ⟨_, o', g2, g3⟩ := hB d o0 ho0 hc
      rw [g2] at ho2
      cases ho2
      exact ⟨fun _ => s2 d hdl hc, fun _ => g3⟩
  · obtain ⟨d, q1, q2, _⟩ := s1 s hs
    exact ⟨d, q2, q1⟩
  · have hdl : d < M.os.length := by rw [← hl]; exact (List.getElem?_eq_some_iff.1 ho).1
    obtain ⟨d', q1, q2, q3⟩ := s1 s hs
    obtain rfl : d' = d := by omega
    have ho2 : (X.sentOut M.os.length).1.os[d']? = some o := ho
    rw [sentOut_at X M.os.length d' hdl] at ho2
    have hin := sentOut_in X M.os.length s hs
    obtain ⟨d2, _, hin⟩ := hin
    have e2 := sentTo_d X d2 s hin
    obtain rfl : d2 = d' := by omega
    exact sentTo_try X d2 s hin o ho2

/-- The log of a Compact leads to the same. -/
theorem LInv.compacted {M : Ag} {t : Nat} (h : LInv M) (hi : Inv M t) (hid : ∀ (i : Nat) b, M.bs[i]? = some b → b.id = kid i) (h100 : M.bs.length ≤ 100) : LInv M.compacted := by
  obtain ⟨w1, w2⟩ := way_leads hi hid h100
  refine ⟨?_, h.quota⟩
  show Leads (Ag.new M.c M.D M.ns) 0 (recB 61 M.way) M.core
  by_cases hw : M.way = []
  · rw [hw] at w2
    have e : recB 61 M.way = [] := by unfold recB; rw [if_pos hw]
    rw [e, ← w2]
    exact Leads.refl _ _
  · have hl := hi.compacted_len
    unfold recB at hl
    rw [if_neg hw, List.length_append] at hl
    have := Leads.record (M := Ag.new M.c M.D M.ns) (n := 0) (by' := 61) hw hi.tell (by omega) w1 (by simp [mayStand]) (by rw [w2]; exact (quota_core M).2 h.quota)
    rw [w2] at this
    exact this
/-- How long it is at the most. -/
def mostOf (bs : List Bat) : Nat := (bs.map (fun b => 16 + b.id.length + b.ten.length + b.body.length)).sum
theorem took_len : ∀ bs : List Bat, ((bs.map tookEv).flatMap Ev.bytes).length + 11 * bs.length ≤ mostOf bs
  | [] => by simp [mostOf]
  | b :: bs => by
    have ih := took_len bs
    have h1 : (tookEv b).bytes.length = 5 + (b.ten.length + b.id.length + b.body.length) := by
      unfold Ev.bytes
      rw [if_pos (show (tookEv b).kind = 0 from rfl)]
      simp [tookEv, evBytes, evParts, part]
      omega
    simp only [mostOf, List.map_cons, List.flatMap_cons, List.length_append, List.sum_cons, List.length_cons] at ih ⊢
    omega
theorem small_len {es : List Ev} (h : ∀ e ∈ es, e.kind ≠ 0) : (es.flatMap Ev.bytes).length = 3 * es.length := by
  induction es with
  | nil => rfl
  | cons e es ih =>
    rw [List.flatMap_cons, List.length_append, ih (fun x hx => h x (List.mem_cons_of_mem _ hx))]
    have : e.bytes.length = 3 := by unfold Ev.bytes; rw [if_neg (h e (by simp))]; rfl
    rw [this, List.length_cons]
    omega
theorem ends_kind (bs : List Bat) : ∀ k, ∀ e ∈ endsOf bs k, e.kind ≠ 0
  | 0, e, he => by cases he
  | k + 1, e, he => by
    unfold endsOf at he
    rcases List.mem_append.1 he with h | h
    · exact ends_kind bs k e h
    · cases hb : bs[k]? with
      | none => rw [hb] at h; cases h
      | some b =>
        rw [hb] at h
        simp only [endEv] at h
        split at h
        · obtain rfl := List.mem_singleton.1 h; simp [Ev.of]
        · split at h
          · obtain rfl := List.mem_singleton.1 h; simp [Ev.of]
          · cases h
theorem Inv.short_len {M : Ag} {t : Nat} (h : Inv M t) : (recB 61 M.way).length ≤ 16 + mostOf M.bs := by
  have h1 := took_len M.bs
  have h2 := small_len (ends_kind M.bs M.bs.length)
  have h3 := endsOf_le M.bs M.bs.length
  have h4 := small_len (es := M.dead.map (diedEv M.bs)) (fun e he => by obtain ⟨p, _, rfl⟩ := List.mem_map.1 he; simp [diedEv, Ev.of])
  have h5 := nodup_le M.bs.length M.dead h.ddn (fun p hp => by obtain ⟨b, hb, _⟩ := (h.dead p).1 hp; exact (List.getElem?_eq_some_iff.1 hb).1)
  rw [List.length_map] at h4
  unfold recB
  split
  · simp
  · rw [List.length_append]
    unfold Ag.way
    rw [List.flatMap_append, List.flatMap_append, List.length_append, List.length_append]
    simp only [List.length_cons, List.length_nil]
    omega

/-- An agent that has heard nothing bad. -/
structure GInv (zs : List Int) (M : Ag) : Prop where
  c : M.c = madeC zs
  fr : ∀ r ∈ M.rt, r.fr ≤ M.now
  os : ∀ o ∈ M.os, o.trip = false ∧ o.fl = 0
theorem GInv.crashed {zs : List Int} {M : Ag} (hc : M.c = madeC zs) : GInv zs M.crashed := by
  refine ⟨hc, fun r hr => ?_, fun o ho => ?_⟩
  · rw [(List.mem_replicate.1 (show r ∈ List.replicate M.bs.length (⟨0, M.c.ba⟩ : Ret) from hr)).2]
    exact Int.le_refl _
  · rw [(List.mem_replicate.1 ho).2]
    exact ⟨rfl, rfl⟩
theorem GInv.ticked {zs : List Int} {M : Ag} (h : GInv zs M) (hidle : ∀ (d : Nat) (o : Out), M.os[d]? = some o → o.way = -1) {ms : Int} (h0 : 0 ≤ ms) : GInv zs (M.ticked ms 0).1 := by
  obtain ⟨X, hX⟩ : ∃ X, M.later ms = X := ⟨_, rfl⟩
  have ht : (M.ticked ms 0).1 = (X.sentOut X.os.length).1 := by
    unfold Ag.ticked
    rw [hX, timed_idle (M := X) (fun d o ho => hidle d o (by rw [← hX] at ho; exact ho)) 0]
  have hG : GInv zs X := by
    rw [← hX]
    exact ⟨h.c, fun r hr => by have := h.fr r hr; show r.fr ≤ M.now + ms; omega, h.os⟩
  have key : ∀ k, GInv zs (X.sentOut k).1 := fun k => by
    induction k with
    | zero => exact hG
    | succ k ih =>
      show GInv zs ((X.sentOut k).1.sentTo k).1
      unfold Ag.sentTo
      cases ho : (X.sentOut k).1.os[k]? with
      | none => exact ih
      | some o =>
        simp only
        split
        · exact ih
        · refine ⟨ih.c, ih.fr, fun x hx => ?_⟩
          rcases List.mem_or_eq_of_mem_set (show x ∈ (X.sentOut k).1.os.set k _ from hx) with hx | rfl
          · exact ih.os x hx
          · exact ih.os o (List.mem_of_getElem? ho)
  rw [ht]
  exact key _
theorem GInv.replied {zs : List Int} {M : Ag} {t d : Nat} {o : Out} (h : GInv zs M) (hi : Inv M t) (ht : t ≤ 10000000000000) (ho : M.os[d]? = some o) (hw : o.way ≠ -1) : GInv zs (M.replied d true 0) := by
  obtain ⟨p, b, r, hs, _⟩ := hi.setOk ht (Int.le_refl 0) ho hw
  obtain ⟨k, _, _, f, e⟩ := replied_eq hs true
  have h4 := pickN_lt (zs.getD 4 0) (n := 8) (by omega)
  have h8 := pickN_lt (zs.getD 8 0) (n := 4) (by omega)
  obtain ⟨a1, a2, _⟩ := hi.os d o ho
  have hwi : M.c.wi ≤ 8 := by rw [h.c]; show (1 : Int) + (pickN (zs.getD 4 0) 8 : Int) ≤ 8; omega
  have hth : M.c.th = quarter (pickN (zs.getD 8 0) 4) := by rw [h.c]; rfl
  obtain ⟨g1, g2⟩ := h.os o (List.mem_of_getElem? ho)
  have hbr : ({ o with way := -1 }.heard M.c M.now true).trip = false ∧ ({ o with way := -1 }.heard M.c M.now true).fl = 0 := by
    have hn := none_fail h8 (r := (o.res + 1).toNat) (by omega) (by omega)
    rw [show (((o.res + 1).toNat : Nat) : Int) = o.res + 1 by omega] at hn
    unfold Out.heard Out.counted
    simp only [g1, g2, Bool.false_eq_true, if_false, if_true, hth, hn, Bool.and_false]
    split
    · exact ⟨rfl, rfl⟩
    · exact ⟨rfl, rfl⟩
  rw [e, over_eq hs true]
  refine ⟨h.c, h.fr, fun x hx => ?_⟩
  rcases List.mem_or_eq_of_mem_set (show x ∈ M.os.set d _ from hx) with hx | rfl
  · exact h.os x hx
  · exact hbr

/-- Two agents that differ in their logs alone. -/
theorem sentTo_log (X : Ag) (l : List UInt8) (d : Nat) : ({ X with log := l } : Ag).sentTo d = ({ (X.sentTo d).1 with log := l }, (X.sentTo d).2) := by
  have hz : ({ X with log := l } : Ag).sizes d = X.sizes d := rfl
  have hq : ({ X with log := l } : Ag).quanta = X.quanta := rfl
  unfold Ag.sentTo
  rw [hz, hq]
  show (match X.os[d]? with | none => _ | some o => _) = _
  cases X.os[d]? with
  | none => rfl
  | some o => simp only; split <;> rfl
theorem sentOut_log (X : Ag) (l : List UInt8) : ∀ k, ({ X with log := l } : Ag).sentOut k = ({ (X.sentOut k).1 with log := l }, (X.sentOut k).2)
  | 0 => rfl
  | k + 1 => by
    show (((({ X with log := l } : Ag).sentOut k).1.sentTo k).1, (({ X with log := l } : Ag).sentOut k).2 ++ ((({ X with log := l } : Ag).sentOut k).1.sentTo k).2) = _
    rw [sentOut_log X l k]
    simp only
    rw [sentTo_log]
    rfl
theorem ticked_log {X : Ag} (hidle : ∀ (d : Nat) (o : Out), X.os[d]? = some o → o.way = -1) (ms : Int) (l : List UInt8) : ({ X with log := l } : Ag).ticked ms 0 = ({ (X.ticked ms 0).1 with log := l }, (X.ticked ms 0).2) := by
  unfold Ag.ticked
  rw [timed_idle (M := ({ X with log := l } : Ag).later ms) hidle 0, timed_idle (M := X.later ms) hidle 0]
  exact sentOut_log (X.later ms) l _
theorem replied_log {X : Ag} {t d : Nat} {o : Out} (hi : Inv X t) (ht : t ≤ 10000000000000) (ho : X.os[d]? = some o) (hw : o.way ≠ -1) (l : List UInt8) : ∃ l', ({ X with log := l } : Ag).replied d true 0 = { X.replied d true 0 with log := l' } := by
  obtain ⟨p, b, r, hs, _⟩ := hi.setOk ht (Int.le_refl 0) ho hw
  have hs' : SetOk ({ X with log := l } : Ag) d o p b r 0 := ⟨hs.ho, hs.way, hs.hb, hs.hr, hs.f0, hs.f1, hs.r0, hs.r1, hs.l0, hs.l1, hs.c, hs.p1, hs.p2, hs.dr, hs.n0, hs.n1⟩
  obtain ⟨_, _, _, f, e⟩ := replied_eq hs true
  obtain ⟨_, _, _, f', e'⟩ := replied_eq hs' true
  rw [e', over_eq hs' true, e, over_eq hs true]
  exact ⟨_, rfl⟩
/-- Nobody waits. -/
theorem waits_zero {bs : List Bat} (h : ∀ b ∈ bs, b.st ≠ 1) (x : List UInt8) : waits bs x = 0 := by
  have hp : ∀ d : Int, pend bs d x = [] := fun d => List.eq_nil_iff_forall_not_mem.2 fun i hi => by
    obtain ⟨b, h1, _, _, h4⟩ := mem_pend.1 hi
    exact h b (List.mem_of_getElem? h1) h4
  unfold waits
  simp [hp]
end Go.Proofs.YtojpjaifhjigfabGreatDoor

/- Dead, of whatever agent. -/
namespace Go.Proofs.YtojpjaifhjigfabGreatDoor
open Go.RowKit Go.Maps

/-- Dead of an agent. -/
theorem adead {wr : World} {L : Labs} {who g : Nat} {M : Ag} {t : Nat} (hA : AgentAt wr L who g M) (hi : Inv M t) :
    Calls Tryz.prog 12 #[.pointer (some ⟨g, 0, none⟩)] wr fun e w' => ∃ gd, e = .returned (.slice (some ⟨gd, 0, none⟩) M.ids.length M.ids.length) ∧ (∀ (i : Nat) (x : List UInt8), M.ids[i]? = some x → w'.cell? ⟨gd, i, none⟩ = some (encStr x)) ∧ gd < w'.heap.size ∧ Below wr.heap.size wr w' := by
  refine (dead_any L who g M wr hA hi.dead_lt hi.b120 hi.dead_le).mono ?_
  rintro e w' ⟨gd, rfl, h1, h2, h3⟩
  refine ⟨gd, rfl, fun i x hx => ?_, ?_, h3⟩
  · have hc := h2.cells (show (Value.slice (some ⟨gd, 0, none⟩) M.ids.length M.ids.length).ownBlock = some gd by simp [Value.ownBlock]) i (encStr x) (by simp [hx])
    rw [Addr.add_mid, Nat.zero_add] at hc
    exact hc
  · exact (h2.lt gd (by simp [Value.ownBlock])).2
end Go.Proofs.YtojpjaifhjigfabGreatDoor

/- conduitkeep.Ahead. -/
namespace Go.Proofs.YtojpjaifhjigfabGreatDoor
open Go.RowKit Go.Maps
attribute [local go_sem] run_store_float

theorem err_neq (A : Nat → Addr) (i : Nat) (w : World) : (binOp .neq 40 (ev A i) (ev A i)).run Tryz.prog w = .ok (.bool false) w := by
  obtain ⟨i1, hi1, hcmp⟩ := Option.map_eq_some_iff.1 comp121
  obtain ⟨j1, hj1, _⟩ := Option.map_eq_some_iff.1 size142
  have h := run_equalIn_iface_ptr_same (P := Tryz.prog) w 9998 (A i) Tryz.underlying40 Tryz.underlying197 hi1 hcmp hj1
  unfold ev
  simp only [binOp]
  simp [Op.equal, Op.maxDepth, h]
/-- What Open of a text says of a run. -/
def TextOf (zs : List Int) (N : Nat) (M : Ag) : Prop := LInv M ∧ M.c = madeC zs ∧ M.D = DT (madeT zs N) ∧ M.ns = kn.take N
def TextX (A : Nat → Addr) (zs : List Int) (N : Nat) (text : List UInt8) (wx : World) (v x : Value) : Prop :=
  (v = .pointer none ∧ x = ev A 1 ∧ ∀ M, TextOf zs N M → M.log ≠ text) ∨ (∃ gx Lx X, v = .pointer (some ⟨gx, 0, none⟩) ∧ x = .nilIface ∧ gx < wx.heap.size ∧ AgentAt wx Lx 3 gx X ∧ ∀ M, TextOf zs N M → M.log = text → X = M.crashed)
theorem TextX.below {A : Nat → Addr} {zs : List Int} {N : Nat} {text : List UInt8} {wx w' : World} {v x : Value} (h : TextX A zs N text wx v x) (hb : Below wx.heap.size wx w') : TextX A zs N text w' v x := by
  rcases h with h | ⟨gx, Lx, X, h1, h2, h3, h4, h5⟩
  · exact Or.inl h
  · exact Or.inr ⟨gx, Lx, X, h1, h2, Nat.lt_of_lt_of_le h3 hb.size, h4.keep (Step.of_below (p := fun _ => False) hb) (fun _ h => h), h5⟩
theorem aopen_text (A : Nat → Addr) (W : World) (cm n : Nat) (zs : List Int) (N : Nat) (text : List UInt8) (hN : N = 1 + pickN (zs.getD 9 0) 4) (hS : Sents.Holds W 197 gl 11 A) (hn : n ≤ 4) (ho : OM W cm n (DT (madeT zs N))) (hlen : text.length ≤ 140737488355328) :
    Calls Tryz.prog 10 #[(madeC zs).val (some cm), encStr text] W fun e w' => ∃ v x, e = .returned (.tuple #[v, x]) ∧ TextX A zs N text w' v x ∧ Below W.heap.size W w' := by
  have h9 := pickN_lt (zs.getD 9 0) (n := 4) (by omega)
  have hg := made_good zs
  rw [← hN] at hg
  refine (open_log A 3 (madeC zs) (some cm) _ text W hS (Or.inr ⟨cm, n, rfl, ho, by unfold big; omega⟩) hg hlen).mono ?_
  rintro e w' ⟨ns, res, h1, h2, h3, h4, h5, h6⟩
  have hns' := names_eq zs (by omega) (by omega) h1 h2
  have key : ∀ M, TextOf zs N M → M.log = text → ∃ M' n, res = some (M', n) ∧ M'.reborn (text.take n) = M.crashed := fun M ⟨q1, q2, q3, q4⟩ e => by
    have := crashed_of q1 (hns'.trans q4.symm) (by rw [q2, q3, e]; exact h3)
    rw [e] at this
    exact this
  cases hres : res with
  | none =>
    refine ⟨_, _, h5 hres, Or.inl ⟨rfl, rfl, fun M hM e => ?_⟩, h4⟩
    obtain ⟨M', n', e1, _⟩ := key M hM e
    rw [hres] at e1
    cases e1
  | some r =>
    obtain ⟨M1, n1⟩ := r
    obtain ⟨gx, Lx, e1, hA, _, _, _⟩ := h6 M1 n1 hres
    obtain ⟨bq, bm, cn, tv, dv, nv, rv, ov, hAg⟩ := hA
    have hlt := hAg.blk.1.lt
    refine ⟨_, _, e1, Or.inr ⟨gx, Lx, _, rfl, rfl, hlt, ⟨bq, bm, cn, tv, dv, nv, rv, ov, hAg⟩, fun M hM e => ?_⟩, h4⟩
    obtain ⟨M', n', e2, e3⟩ := key M hM e
    rw [hres] at e2
    cases e2
    exact e3
/-- The run behind its Compact, or without. -/
structure AhAt (w2 wr : World) (L : Labs) (gr g cm : Nat) (zs : List Int) (N : Nat) (R : Rn) (M : Ag) (t : Nat) : Prop where
  run : RunAt wr L gr g cm (madeC zs) R
  ag : AgentAt wr L 1 g M
  b : Below w2.heap.size w2 wr
  lo : ∀ k, k < w2.heap.size → L k = none
  tx : TextOf zs N M
  bs : R.fs.map Fa.b = M.bs
  ids : ∀ (i : Nat) b, M.bs[i]? = some b → b.id = kid i
  i : Inv M t
  f100 : R.fs.length ≤ 100
theorem AhAt.below {w2 wr w' : World} {L : Labs} {gr g cm : Nat} {zs : List Int} {N : Nat} {R : Rn} {M : Ag} {t : Nat} (h : AhAt w2 wr L gr g cm zs N R M t) (hb : Below wr.heap.size wr w') : AhAt w2 w' L gr g cm zs N R M t :=
  ⟨h.run.keep (Step.of_below (p := fun _ => False) hb) (fun _ h => h), h.ag.keep (Step.of_below (p := fun _ => False) hb) (fun _ h => h), h.b.trans (hb.mono h.b.size), h.lo, h.tx, h.bs, h.ids, h.i, h.f100⟩
theorem AhAt.compacted {w2 wr w' : World} {L L' : Labs} {gr g cm : Nat} {zs : List Int} {N : Nat} {R : Rn} {M : Ag} {t : Nat} (h : AhAt w2 wr L gr g cm zs N R M t) (hA : AgentAt w' L' 1 g M.compacted) (s : Step (ofP 1) L wr L' w') : AhAt w2 w' L' gr g cm zs N R M.compacted (t + 200) := by
  have hl : M.bs.length ≤ 100 := by rw [← h.bs, List.length_map]; exact h.f100
  exact ⟨h.run.agent s, hA, h.b.trans (s.below h.b.size (fun k hk => by rw [h.lo k hk]; exact fun ⟨q, e⟩ => by cases e)), fun k hk => (s.lab k (Nat.lt_of_lt_of_le hk h.b.size)).trans (h.lo k hk), ⟨h.tx.1.compacted h.i h.ids hl, h.tx.2⟩, h.bs, h.ids, h.i.compacted, h.f100⟩
theorem AhAt.more {w2 wr : World} {L : Labs} {gr g cm : Nat} {zs : List Int} {N : Nat} {R : Rn} {M : Ag} {t : Nat} (h : AhAt w2 wr L gr g cm zs N R M t) : AhAt w2 wr L gr g cm zs N R M (t + 200) := ⟨h.run, h.ag, h.b, h.lo, h.tx, h.bs, h.ids, h.i.more (by omega), h.f100⟩

set_option maxRecDepth 100000 in
set_option maxHeartbeats 16000000 in
theorem ahead_any (A : Nat → Addr) (la sa : Option Addr) (cap scap : Nat) (zs : List Int) (text : List UInt8) (ss : List St) (cb : Bool) (w : World) (hS : Sents.Holds w 197 gl 11 A) (hr : ∀ z ∈ zs, InR z) (h : IntsAt w la zs) (h2 : StepsAt w sa ss) (hok : ∀ s ∈ ss, s.Ok) (hlen : ss.length ≤ 3600000000000) (htx : text.length ≤ 140737488355328) :
    Calls Tryz.prog 4 #[.slice la zs.length cap, encStr text, .slice sa ss.length scap, .bool cb] w fun e w' => e = .returned (.bool true) ∧ Below w.heap.size w w' := by
  obtain ⟨N, hN⟩ : ∃ N, N = 1 + pickN (zs.getD 9 0) 4 := ⟨_, rfl⟩
  have HMade := hide (made_any la cap zs w hr h)
  rw [← hN] at HMade
  have HP := hide (fun W (hW : Below w.heap.size w W) => kplayed_q A la sa cap scap zs ss N hN W (hS.below hW) hr (h.below hW) (h2.below hW) hok hlen)
  have HN := hide hN
  have HS := hide hS
  generalize zs.length = nz at *
  generalize hns : ss.length = ns at *
  clear h hr hS h2 hok hns hN
  go_enter Tryz.func4, Tryz.ntmps4
  go_wp2_with fail
  refine HMade.out.mono ?_
  rintro e w1 ⟨b, rfl, hb, ⟨n, hn, hM⟩, hB1⟩
  have HM := hide hM
  have HB1 := hide hB1
  clear hM hB1 HMade
  go_wp2_with fail
  generalize hW : World.alloc w1 _ = W
  have hBW : Below w.heap.size w W := by rw [← hW]; exact HB1.out.alloc HB1.out.size _
  have hMW : OM W b n (DT (madeT zs N)) := by rw [← hW]; exact HM.out.alloc _
  have HOp := hide (aopen_text A W b n zs N text HN.out (HS.out.below hBW) hn hMW htx)
  have HBW := hide hBW
  clear hW hBW hMW HM HB1
  refine HOp.out.mono ?_
  rintro e w2 ⟨v, x, rfl, hTX, hb2⟩
  have HB2 := hide (HBW.out.trans (hb2.mono HBW.out.size))
  have HTX := hide hTX
  clear hTX hb2 HOp HBW
  have hE := (HS.out.below HB2.out).cell 1 (by decide)
  simp only [gl, List.getD_cons_zero, List.getD_cons_succ] at hE
  have hnq := fun w => err_neq A 1 w
  have Hfl : Hid ((v = .pointer none ∧ x = ev A 1) ∨ ∃ gx, v = .pointer (some ⟨gx, 0, none⟩) ∧ x = .nilIface) := by
    rcases HTX.out with ⟨e1, e2, _⟩ | ⟨gx, _, _, e1, e2, _⟩
    · exact Or.inl ⟨e1, e2⟩
    · exact Or.inr ⟨gx, e1, e2⟩
  go_upto_region 3 with fail
  go_cut [41] (fun s41 wx => s41 = .bool false ∧ w2 = wx)
  case first =>
    rcases Hfl.out with ⟨rfl, rfl⟩ | ⟨gx, rfl, rfl⟩
    all_goals
      go_wp2_with fail
      go_meet
      exact ⟨rfl, rfl⟩
  case rest =>
    obtain ⟨rfl, rfl⟩ := hcut
    clear hE hnq Hfl
    go_wp2_with fail
    refine (HP.out _ HB2.out).mono ?_
    rintro e w3 ⟨gr, rfl, hR⟩
    obtain ⟨g, cm, R, L, hK, _⟩ := hR
    generalize (playedP zs N ss).1 = M at hK
    obtain ⟨t, ht⟩ : ∃ t, ns + 3 = t := ⟨_, rfl⟩
    rw [ht] at hK
    have HAh : Hid (AhAt w2 w3 L gr g cm zs N R M t) := ⟨hK.at', hK.ag, hK.b, hK.lo, ⟨hK.linv, hK.c, hK.D, hK.ns⟩, hK.bs, hK.ids, hK.inv, by rw [← hK.n]; exact hK.n100⟩
    have HCm := hide (compact_any L 1 g t M w3 hK.ag hK.inv)
    obtain ⟨fv, wv, hP⟩ := hK.at'
    have c0 : w3.cell? ⟨gr, 0, none⟩ = some (.pointer (some ⟨g, 0, none⟩)) := hP.blk.1.cell 0
    clear hK hP ht HP
    cases cb with
    | false =>
      have hAh4 := HAh.out.more
      generalize w3 = wc at *
      generalize L = L4 at *
      generalize M = M4 at *
      clear c0
      obtain ⟨T, hT⟩ : ∃ T, t + 200 = T := ⟨_, rfl⟩
      rw [hT] at hAh4
      have HLog := hide (log_any L4 1 g M4 wc hAh4.ag)
      obtain ⟨fv, wv, hP⟩ := hAh4.run
      have d0 : wc.cell? ⟨gr, 0, none⟩ = some (.pointer (some ⟨g, 0, none⟩)) := hP.blk.1.cell 0
      have HA4 := hide hAh4
      have HTX4 := hide (HTX.out.below hAh4.b)
      have HB4 := hide (HB2.out.trans (hAh4.b.mono HB2.out.size))
      clear hAh4 hP HCm HAh HTX hT
      go_wp2_with fail
      refine HLog.out.mono ?_
      rintro e w5 ⟨rfl, rfl⟩
      by_cases heq : M4.log = text
      · rw [heq]
        rcases HTX4.out with ⟨_, _, hno⟩ | ⟨gx, Lx, X, rfl, rfl, hgx, hX, hXM⟩
        · exact absurd heq (hno M4 HA4.out.tx)
        · obtain rfl := hXM M4 HA4.out.tx heq
          have HX := hide hX
          have Hgx := hide hgx
          clear hX hXM hgx HTX4 HLog d0
          obtain ⟨n, hn⟩ : ∃ n, R.fs.length = n := ⟨_, rfl⟩
          have hn100 : n ≤ 100 := by rw [← hn]; exact HA4.out.f100
          have Hn := hide hn
          clear hn
          go_wp2_with fail
          generalize hw6 : w5 = w6 at *
          go_loopw [14] (fun i wr => ∃ k : Nat, k ≤ n ∧ i = .int .i64 k ∧ Below w6.heap.size w6 wr) (fun i _ => n - (intOf i).toNat)
          case atStart => exact ⟨0, Nat.zero_le _, rfl, Below.refl _ _⟩
          case round =>
            obtain ⟨k, hk, rfl, hb⟩ := hrel
            have hSk := HA4.out.below hb
            have hXk := HX.out.keep (Step.of_below (p := fun _ => False) hb) (fun _ h => h)
            obtain ⟨fv, wv, hP⟩ := hSk.run
            obtain ⟨fa, fk, rfl, _⟩ := hP.fa.shape
            have c12 : wr.cell? ⟨gr, 12, none⟩ = some (.slice fa n fk) := by have := hP.blk.1.cell 12; rw [← Hn.out]; exact this
            have hI : Inv M4.crashed T := hSk.i.crashed
            have hM100 : M4.bs.length ≤ 100 := by rw [← hSk.bs, List.length_map]; exact hSk.f100
            by_cases hlt : k < n
            · have hltI : (k : Int) < (n : Int) := by omega
              obtain ⟨f, hf⟩ : ∃ f, R.fs[k]? = some f := ⟨_, List.getElem?_eq_getElem (by rw [Hn.out]; exact hlt)⟩
              have hXb : M4.crashed.bs[k]? = some f.b := map_at hSk.bs hf
              have HSx : Hid (∀ W, Below wr.heap.size wr W → Calls Tryz.prog 11 #[.pointer (some ⟨gx, 0, none⟩), encStr f.b.id] W fun e w' => e = .returned (.tuple #[.agg #[.int .i64 f.b.st, .int .i64 f.b.fl], .nilIface]) ∧ Below W.heap.size W w') := fun W hW => status_some Lx 3 gx M4.crashed f.b.id k f.b W (hXk.keep (Step.of_below (p := fun _ => False) hW) (fun _ h => h)) hI.b120 (ids_find (M := M4.crashed) hSk.ids (by show M4.bs.length ≤ 120; omega) hXb) hXb
              obtain ⟨gf, fk', e, _, hcf, _⟩ := hP.fact hf
              rw [Hn.out] at e
              simp only [Value.slice.injEq] at e
              obtain ⟨rfl, _, rfl⟩ := e
              have HCl : Hid (∀ W, Below wr.heap.size wr W → W.cell? ⟨gr, 12, none⟩ = some (.slice (some ⟨gf, 0, none⟩) n fk) ∧ W.cell? ⟨gf, k * 8 + 2, none⟩ = some (encStr f.b.id) ∧ W.cell? ⟨gf, k * 8 + 4, none⟩ = some (.int .i64 f.b.st) ∧ W.cell? ⟨gf, k * 8 + 5, none⟩ = some (.int .i64 f.b.fl)) := fun W hW => by
                have hP' := hP.keep (Step.of_below (p := fun _ => False) hW) (fun _ h => h)
                obtain ⟨gf', fk', e, _, hcf, _⟩ := hP'.fact hf
                rw [Hn.out] at e
                simp only [Value.slice.injEq, Option.some.injEq, Addr.mk.injEq, and_true] at e
                obtain ⟨rfl, _, _⟩ := e
                have q := hP'.blk.1.cell 12
                refine ⟨?_, hcf 2 _ rfl, hcf 4 _ rfl, hcf 5 _ rfl⟩
                rw [← Hn.out]
                exact q
              obtain ⟨⟨fd, ften, fid, fbo, fst', ffl⟩, faf, fsn⟩ := f
              simp only at HSx HCl
              obtain ⟨_, c2, _, _⟩ := HCl.out wr (Below.refl _ _)
              have Hb := hide hb
              clear hSk hP hcf hf hXb hb hXk hI
              go_wp2_with fail
              refine (HSx.out _ (Below.refl _ _)).mono ?_
              rintro e wA ⟨rfl, hbA⟩
              have HBA := hide hbA
              clear hbA c12 c2 HSx
              go_wp2_with fail
              generalize hV : World.alloc wA _ = V
              have hbV : Below wr.heap.size wr V := by rw [← hV]; exact below_alloc HBA.out _
              have hAV : Blk V wA.heap.size #[.int .i64 fst', .int .i64 ffl] 44 := by rw [← hV]; exact Blk.new wA _ _
              obtain ⟨v12, _, v4, v5⟩ := HCl.out V hbV
              have a0 : V.cell? ⟨wA.heap.size, 0, none⟩ = some (.int .i64 fst') := hAV.cell 0
              have a1 : V.cell? ⟨wA.heap.size, 1, none⟩ = some (.int .i64 ffl) := hAV.cell 1
              have HbV := hide (Hb.out.trans (hbV.mono Hb.out.size))
              clear hV hbV hAV HCl HBA
              go_quiet (fail)
              go_wp2_with fail
              go_roundw
              case rel => exact ⟨k + 1, by omega, by go_num, HbV.out.trans ((below_drewN' V _).mono HbV.out.size)⟩
              case measure => simp [intOf]; omega
            · obtain rfl : n = k := by omega
              have hltI : ¬ ((n : Int) < (n : Int)) := by omega
              have d0 : wr.cell? ⟨gr, 0, none⟩ = some (.pointer (some ⟨g, 0, none⟩)) := hP.blk.1.cell 0
              have hids : M4.crashed.ids = M4.ids := rfl
              have HDr := hide (adead hSk.ag hSk.i)
              have HDx : Hid (∀ W, Below wr.heap.size wr W → Calls Tryz.prog 12 #[.pointer (some ⟨gx, 0, none⟩)] W fun e w' => ∃ gd, e = .returned (.slice (some ⟨gd, 0, none⟩) M4.ids.length M4.ids.length) ∧ (∀ (i : Nat) (x : List UInt8), M4.ids[i]? = some x → w'.cell? ⟨gd, i, none⟩ = some (encStr x)) ∧ gd < w'.heap.size ∧ Below W.heap.size W w') := fun W hW => by
                have q := adead (hXk.keep (Step.of_below (p := fun _ => False) hW) (fun _ h => h)) hI
                rw [hids] at q
                exact q
              obtain ⟨nd, hnd⟩ : ∃ nd, M4.ids.length = nd := ⟨_, rfl⟩
              have hnd120 : nd ≤ 120 := by
                have h1 := hSk.i.dead_le
                have h2 : M4.ids.length = M4.dead.length := by simp [Ag.ids]
                omega
              have Hnd := hide hnd
              rw [hnd] at HDr HDx
              have HB7 := hide (HB4.out.trans (hb.mono HB4.out.size))
              clear hSk hP hb hXk hI hnd hids
              go_wp2_with fail
              refine HDr.out.mono ?_
              rintro e wA ⟨gd, rfl, hcd, hgd, hbA⟩
              have Hcd := hide hcd
              have HbA := hide hbA
              clear hcd hbA HDr c12 d0
              go_wp2_with fail
              refine (HDx.out _ HbA.out).mono ?_
              rintro e wB ⟨gk, rfl, hck, hgk, hbB⟩
              have Hck := hide hck
              have HcdB : Hid (∀ (i : Nat) (x : List UInt8), M4.ids[i]? = some x → wB.cell? ⟨gd, i, none⟩ = some (encStr x)) := fun i x hx => (hbB.cell (p := ⟨gd, i, none⟩) hgd).trans (Hcd.out i x hx)
              have hgdB : gd < wB.heap.size := Nat.lt_of_lt_of_le hgd hbB.size
              have HB8 : Hid (Below w.heap.size w wB) := HB7.out.trans ((bl_trans HbA.out hbB).mono HB7.out.size)
              clear hck hbB HDx HbA Hcd hgd HB7
              go_wp2_with fail
              generalize hwB : wB = w8 at *
              go_loopw [19] (fun i wr => ∃ k : Nat, k ≤ nd ∧ i = .int .i64 k ∧ Below w8.heap.size w8 wr) (fun i _ => nd - (intOf i).toNat)
              case atStart => exact ⟨0, Nat.zero_le _, rfl, Below.refl _ _⟩
              case round =>
                obtain ⟨k, hk, rfl, hb⟩ := hrel
                by_cases hlt : k < nd
                · have hltI2 : (k : Int) < (nd : Int) := by omega
                  obtain ⟨x, hx⟩ : ∃ x, M4.ids[k]? = some x := ⟨_, List.getElem?_eq_getElem (by rw [Hnd.out]; exact hlt)⟩
                  have e1 : wr.cell? ⟨gd, k, none⟩ = some (encStr x) := (hb.cell (p := ⟨gd, k, none⟩) hgdB).trans (HcdB.out k x hx)
                  have e2 : wr.cell? ⟨gk, k, none⟩ = some (encStr x) := (hb.cell (p := ⟨gk, k, none⟩) hgk).trans (Hck.out k x hx)
                  have Hb := hide hb
                  clear hb hx
                  go_wp2_with fail
                  go_quiet (fail)
                  go_wp2_with fail
                  go_roundw
                  case rel => exact ⟨k + 1, by omega, by go_num, Hb.out.trans ((below_drewN' wr _).mono Hb.out.size)⟩
                  case measure => simp [intOf]; omega
                · obtain rfl : nd = k := by omega
                  have hltI2 : ¬ ((nd : Int) < (nd : Int)) := by omega
                  have HB9 := hide (HB8.out.trans (hb.mono HB8.out.size))
                  clear hb HB8 HcdB Hck
                  go_wp2_with fail
                  go_ret
                  exact ⟨rfl, HB9.out⟩
      · have hneq : (M4.log == text) = false := by simpa using heq
        go_wp2_with fail
        go_ret
        exact ⟨rfl, HB4.out⟩
    | true =>
      go_wp2_with fail
      refine HCm.out.mono ?_
      rintro e wc ⟨rfl, L4, hA4, hS4⟩
      have hAh4 := HAh.out.compacted hA4 hS4
      clear hA4 hS4 c0
      generalize M.compacted = M4 at *
      obtain ⟨T, hT⟩ : ∃ T, t + 200 = T := ⟨_, rfl⟩
      rw [hT] at hAh4
      have HLog := hide (log_any L4 1 g M4 wc hAh4.ag)
      obtain ⟨fv, wv, hP⟩ := hAh4.run
      have d0 : wc.cell? ⟨gr, 0, none⟩ = some (.pointer (some ⟨g, 0, none⟩)) := hP.blk.1.cell 0
      have HA4 := hide hAh4
      have HTX4 := hide (HTX.out.below hAh4.b)
      have HB4 := hide (HB2.out.trans (hAh4.b.mono HB2.out.size))
      clear hAh4 hP HCm HAh HTX hT
      go_wp2_with fail
      refine HLog.out.mono ?_
      rintro e w5 ⟨rfl, rfl⟩
      by_cases heq : M4.log = text
      · rw [heq]
        rcases HTX4.out with ⟨_, _, hno⟩ | ⟨gx, Lx, X, rfl, rfl, hgx, hX, hXM⟩
        · exact absurd heq (hno M4 HA4.out.tx)
        · obtain rfl := hXM M4 HA4.out.tx heq
          have HX := hide hX
          have Hgx := hide hgx
          clear hX hXM hgx HTX4 HLog d0
          obtain ⟨n, hn⟩ : ∃ n, R.fs.length = n := ⟨_, rfl⟩
          have hn100 : n ≤ 100 := by rw [← hn]; exact HA4.out.f100
          have Hn := hide hn
          clear hn
          go_wp2_with fail
          generalize hw6 : w5 = w6 at *
          go_loopw [14] (fun i wr => ∃ k : Nat, k ≤ n ∧ i = .int .i64 k ∧ Below w6.heap.size w6 wr) (fun i _ => n - (intOf i).toNat)
          case atStart => exact ⟨0, Nat.zero_le _, rfl, Below.refl _ _⟩
          case round =>
            obtain ⟨k, hk, rfl, hb⟩ := hrel
            have hSk := HA4.out.below hb
            have hXk := HX.out.keep (Step.of_below (p := fun _ => False) hb) (fun _ h => h)
            obtain ⟨fv, wv, hP⟩ := hSk.run
            obtain ⟨fa, fk, rfl, _⟩ := hP.fa.shape
            have c12 : wr.cell? ⟨gr, 12, none⟩ = some (.slice fa n fk) := by have := hP.blk.1.cell 12; rw [← Hn.out]; exact this
            have hI : Inv M4.crashed T := hSk.i.crashed
            have hM100 : M4.bs.length ≤ 100 := by rw [← hSk.bs, List.length_map]; exact hSk.f100
            by_cases hlt : k < n
            · have hltI : (k : Int) < (n : Int) := by omega
              obtain ⟨f, hf⟩ : ∃ f, R.fs[k]? = some f := ⟨_, List.getElem?_eq_getElem (by rw [Hn.out]; exact hlt)⟩
              have hXb : M4.crashed.bs[k]? = some f.b := map_at hSk.bs hf
              have HSx : Hid (∀ W, Below wr.heap.size wr W → Calls Tryz.prog 11 #[.pointer (some ⟨gx, 0, none⟩), encStr f.b.id] W fun e w' => e = .returned (.tuple #[.agg #[.int .i64 f.b.st, .int .i64 f.b.fl], .nilIface]) ∧ Below W.heap.size W w') := fun W hW => status_some Lx 3 gx M4.crashed f.b.id k f.b W (hXk.keep (Step.of_below (p := fun _ => False) hW) (fun _ h => h)) hI.b120 (ids_find (M := M4.crashed) hSk.ids (by show M4.bs.length ≤ 120; omega) hXb) hXb
              obtain ⟨gf, fk', e, _, hcf, _⟩ := hP.fact hf
              rw [Hn.out] at e
              simp only [Value.slice.injEq] at e
              obtain ⟨rfl, _, rfl⟩ := e
              have HCl : Hid (∀ W, Below wr.heap.size wr W → W.cell? ⟨gr, 12, none⟩ = some (.slice (some ⟨gf, 0, none⟩) n fk) ∧ W.cell? ⟨gf, k * 8 + 2, none⟩ = some (encStr f.b.id) ∧ W.cell? ⟨gf, k * 8 + 4, none⟩ = some (.int .i64 f.b.st) ∧ W.cell? ⟨gf, k * 8 + 5, none⟩ = some (.int .i64 f.b.fl)) := fun W hW => by
                have hP' := hP.keep (Step.of_below (p := fun _ => False) hW) (fun _ h => h)
                obtain ⟨gf', fk', e, _, hcf, _⟩ := hP'.fact hf
                rw [Hn.out] at e
                simp only [Value.slice.injEq, Option.some.injEq, Addr.mk.injEq, and_true] at e
                obtain ⟨rfl, _, _⟩ := e
                have q := hP'.blk.1.cell 12
                refine ⟨?_, hcf 2 _ rfl, hcf 4 _ rfl, hcf 5 _ rfl⟩
                rw [← Hn.out]
                exact q
              obtain ⟨⟨fd, ften, fid, fbo, fst', ffl⟩, faf, fsn⟩ := f
              simp only at HSx HCl
              obtain ⟨_, c2, _, _⟩ := HCl.out wr (Below.refl _ _)
              have Hb := hide hb
              clear hSk hP hcf hf hXb hb hXk hI
              go_wp2_with fail
              refine (HSx.out _ (Below.refl _ _)).mono ?_
              rintro e wA ⟨rfl, hbA⟩
              have HBA := hide hbA
              clear hbA c12 c2 HSx
              go_wp2_with fail
              generalize hV : World.alloc wA _ = V
              have hbV : Below wr.heap.size wr V := by rw [← hV]; exact below_alloc HBA.out _
              have hAV : Blk V wA.heap.size #[.int .i64 fst', .int .i64 ffl] 44 := by rw [← hV]; exact Blk.new wA _ _
              obtain ⟨v12, _, v4, v5⟩ := HCl.out V hbV
              have a0 : V.cell? ⟨wA.heap.size, 0, none⟩ = some (.int .i64 fst') := hAV.cell 0
              have a1 : V.cell? ⟨wA.heap.size, 1, none⟩ = some (.int .i64 ffl) := hAV.cell 1
              have HbV := hide (Hb.out.trans (hbV.mono Hb.out.size))
              clear hV hbV hAV HCl HBA
              go_quiet (fail)
              go_wp2_with fail
              go_roundw
              case rel => exact ⟨k + 1, by omega, by go_num, HbV.out.trans ((below_drewN' V _).mono HbV.out.size)⟩
              case measure => simp [intOf]; omega
            · obtain rfl : n = k := by omega
              have hltI : ¬ ((n : Int) < (n : Int)) := by omega
              have d0 : wr.cell? ⟨gr, 0, none⟩ = some (.pointer (some ⟨g, 0, none⟩)) := hP.blk.1.cell 0
              have hids : M4.crashed.ids = M4.ids := rfl
              have HDr := hide (adead hSk.ag hSk.i)
              have HDx : Hid (∀ W, Below wr.heap.size wr W → Calls Tryz.prog 12 #[.pointer (some ⟨gx, 0, none⟩)] W fun e w' => ∃ gd, e = .returned (.slice (some ⟨gd, 0, none⟩) M4.ids.length M4.ids.length) ∧ (∀ (i : Nat) (x : List UInt8), M4.ids[i]? = some x → w'.cell? ⟨gd, i, none⟩ = some (encStr x)) ∧ gd < w'.heap.size ∧ Below W.heap.size W w') := fun W hW => by
                have q := adead (hXk.keep (Step.of_below (p := fun _ => False) hW) (fun _ h => h)) hI
                rw [hids] at q
                exact q
              obtain ⟨nd, hnd⟩ : ∃ nd, M4.ids.length = nd := ⟨_, rfl⟩
              have hnd120 : nd ≤ 120 := by
                have h1 := hSk.i.dead_le
                have h2 : M4.ids.length = M4.dead.length := by simp [Ag.ids]
                omega
              have Hnd := hide hnd
              rw [hnd] at HDr HDx
              have HB7 := hide (HB4.out.trans (hb.mono HB4.out.size))
              clear hSk hP hb hXk hI hnd hids
              go_wp2_with fail
              refine HDr.out.mono ?_
              rintro e wA ⟨gd, rfl, hcd, hgd, hbA⟩
              have Hcd := hide hcd
              have HbA := hide hbA
              clear hcd hbA HDr c12 d0
              go_wp2_with fail
              refine (HDx.out _ HbA.out).mono ?_
              rintro e wB ⟨gk, rfl, hck, hgk, hbB⟩
              have Hck := hide hck
              have HcdB : Hid (∀ (i : Nat) (x : List UInt8), M4.ids[i]? = some x → wB.cell? ⟨gd, i, none⟩ = some (encStr x)) := fun i x hx => (hbB.cell (p := ⟨gd, i, none⟩) hgd).trans (Hcd.out i x hx)
              have hgdB : gd < wB.heap.size := Nat.lt_of_lt_of_le hgd hbB.size
              have HB8 : Hid (Below w.heap.size w wB) := HB7.out.trans ((bl_trans HbA.out hbB).mono HB7.out.size)
              clear hck hbB HDx HbA Hcd hgd HB7
              go_wp2_with fail
              generalize hwB : wB = w8 at *
              go_loopw [19] (fun i wr => ∃ k : Nat, k ≤ nd ∧ i = .int .i64 k ∧ Below w8.heap.size w8 wr) (fun i _ => nd - (intOf i).toNat)
              case atStart => exact ⟨0, Nat.zero_le _, rfl, Below.refl _ _⟩
              case round =>
                obtain ⟨k, hk, rfl, hb⟩ := hrel
                by_cases hlt : k < nd
                · have hltI2 : (k : Int) < (nd : Int) := by omega
                  obtain ⟨x, hx⟩ : ∃ x, M4.ids[k]? = some x := ⟨_, List.getElem?_eq_getElem (by rw [Hnd.out]; exact hlt)⟩
                  have e1 : wr.cell? ⟨gd, k, none⟩ = some (encStr x) := (hb.cell (p := ⟨gd, k, none⟩) hgdB).trans (HcdB.out k x hx)
                  have e2 : wr.cell? ⟨gk, k, none⟩ = some (encStr x) := (hb.cell (p := ⟨gk, k, none⟩) hgk).trans (Hck.out k x hx)
                  have Hb := hide hb
                  clear hb hx
                  go_wp2_with fail
                  go_quiet (fail)
                  go_wp2_with fail
                  go_roundw
                  case rel => exact ⟨k + 1, by omega, by go_num, Hb.out.trans ((below_drewN' wr _).mono Hb.out.size)⟩
                  case measure => simp [intOf]; omega
                · obtain rfl : nd = k := by omega
                  have hltI2 : ¬ ((nd : Int) < (nd : Int)) := by omega
                  have HB9 := hide (HB8.out.trans (hb.mono HB8.out.size))
                  clear hb HB8 HcdB Hck
                  go_wp2_with fail
                  go_ret
                  exact ⟨rfl, HB9.out⟩
      · have hneq : (M4.log == text) = false := by simpa using heq
        go_wp2_with fail
        go_ret
        exact ⟨rfl, HB4.out⟩
end Go.Proofs.YtojpjaifhjigfabGreatDoor
