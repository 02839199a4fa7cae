/- Steps of the proof (several texts in one): Again2, ADead, Alike, AlikeWalk. -/
import Derived.Test.YtojpjaifhjigfabGreatDoorMTwo28
import Derived.Test.YtojpjaifhjigfabGreatDoorMTwo24

/- Again: what two agents of one log do. -/
namespace Go.Proofs.YtojpjaifhjigfabGreatDoor
open Go.RowKit Go.Maps

theorem sentOut_in (X : Ag) : ∀ k, ∀ s ∈ (X.sentOut k).2, ∃ d, d < k ∧ s ∈ (X.sentTo d).2
  | 0, s, hs => by cases hs
  | k + 1, s, hs => by
    rw [sentOut_succ2] at hs
    rcases List.mem_append.1 hs with h | h
    · obtain ⟨d, h1, h2⟩ := sentOut_in X k s h
      exact ⟨d, by omega, h2⟩
    · exact ⟨k, by omega, h⟩
theorem sentTo_try (X : Ag) (d : Nat) : ∀ s ∈ (X.sentTo d).2, ∀ o, (X.sentTo d).1.os[d]? = some o → o.sends = s.try' := fun s hs o ho => by
  unfold Ag.sentTo at hs ho
  cases h0 : X.os[d]? with
  | none => rw [h0] at hs; cases hs
  | some o1 =>
    rw [h0] at hs ho
    simp only at hs ho
    split at hs
    · cases hs
    · rename_i hc
      rw [if_neg hc] at ho
      obtain rfl := List.mem_singleton.1 hs
      have ho2 : (X.os.set d _)[d]? = some o := ho
      rw [List.getElem?_set_self (List.getElem?_eq_some_iff.1 h0).1] at ho2
      cases ho2
      rfl
/-- One tick, when nothing pauses: to each destination for which something waits one goes. -/
structure TickGo (M : Ag) (n : Nat) (x : Ag × List Sd) : Prop where
  liv : Liv x.2 n x.1
  nod : (x.2.map Sd.d).Nodup
  all : ∀ s ∈ x.2, ∃ d : Nat, s.d = (d : Int) ∧ d < M.os.length
  len : x.1.os.length = M.os.length
  tr : ∀ s ∈ x.2, ∀ (d : Nat) (o : Out), s.d = (d : Int) → x.1.os[d]? = some o → o.sends = s.try'
theorem Inv.tickGo {M : Ag} {t n : Nat} {ms : Int} (hi : Inv M t) (hrt0 : ∀ r ∈ M.rt, r.fr ≤ M.now + ms) (hun0 : ∀ o ∈ M.os, o.trip = true → o.unt ≤ M.now + ms) (hidle : ∀ (d : Nat) (o : Out), M.os[d]? = some o → o.way = -1) (h0 : 0 ≤ ms) (hn : ∀ (d : Nat) (o : Out), M.os[d]? = some o → pcount M.bs d ≤ n + 1) : TickGo M n (M.ticked ms 0) := by
  obtain ⟨X, hX⟩ : ∃ X, M.later ms = X := ⟨_, rfl⟩
  have hos : X.os = M.os := by rw [← hX]; rfl
  have hbs : X.bs = M.bs := by rw [← hX]; rfl
  have hns : X.ns = M.ns := by rw [← hX]; rfl
  have hrt : ∀ r ∈ X.rt, r.fr ≤ X.now := fun r hr => by
    rw [← hX] at hr ⊢
    exact hrt0 r hr
  have hun : ∀ o ∈ X.os, o.trip = true → o.unt ≤ X.now := fun o ho => by
    rw [← hX] at ho ⊢
    exact hun0 o ho
  have hnow : 0 ≤ X.now := by rw [← hX]; have := hi.nw0; show 0 ≤ M.now + ms; omega
  have ht : M.ticked ms 0 = X.sentOut M.os.length := by
    unfold Ag.ticked
    rw [hX, timed_idle (M := X) (fun d o ho => hidle d o (by rw [← hos]; exact ho)) 0, hos]
  have hA : ∀ d, pcount M.bs d = 0 → (X.sizes d).all (· == 0) = true := fun d hd => sizes_none (fun b hb hst => pcount_none hd b (by rw [← hbs]; exact hb) hst)
  have hB : ∀ (d : Nat) (o : Out), M.os[d]? = some o → pcount M.bs d ≠ 0 → (X.sentTo d).2.length = 1 ∧ ∃ o' : Out, (X.sentTo d).1.os[d]? = some o' ∧ o'.way ≠ -1 := fun d o ho hd => by
    obtain ⟨b, hb, hst, hdst⟩ := pcount_some hd
    refine sentTo_goes (by rw [hos]; exact ho) (hidle d o ho) (hun o (by rw [hos]; exact List.mem_of_getElem? ho)) (sizes_some (b := b) (by rw [hbs]; exact hb) hst hdst ?_ hrt hnow)
    rw [hns]
    exact (hi.each b hb).2.2.1
  have hS : ∀ k, k ≤ M.os.length → (∀ s ∈ (X.sentOut k).2, ∃ d : Nat, d < k ∧ s.d = (d : Int) ∧ pcount M.bs d ≠ 0) ∧ (∀ d, d < k → pcount M.bs d ≠ 0 → ∃ s ∈ (X.sentOut k).2, s.d = (d : Int)) ∧ ((X.sentOut k).2.map Sd.d).Nodup := fun k => by
    induction k with
    | zero => exact fun _ => ⟨fun s hs => (by cases hs), fun d hd => absurd hd (by omega), List.nodup_nil⟩
    | succ k ih =>
      intro hk
      obtain ⟨i1, i2, i3⟩ := ih (by omega)
      rw [sentOut_succ2]
      obtain ⟨o, ho⟩ : ∃ o, M.os[k]? = some o := ⟨_, List.getElem?_eq_getElem (by omega)⟩
      by_cases hc : pcount M.bs k = 0
      · rw [sentTo_rests (hA k hc), List.append_nil]
        refine ⟨fun s hs => ?_, fun d hd hne => ?_, i3⟩
        · obtain ⟨d, q1, q2⟩ := i1 s hs
          exact ⟨d, by omega, q2⟩
        · refine i2 d ?_ hne
          rcases Nat.lt_or_ge d k with h | h
          · exact h
          · exact absurd ((by omega : d = k) ▸ hc) hne
      · obtain ⟨g1, _⟩ := hB k o ho hc
        obtain ⟨s0, hs0⟩ : ∃ s0, (X.sentTo k).2 = [s0] := List.length_eq_one_iff.1 g1
        have hd0 : s0.d = (k : Int) := sentTo_d X k s0 (by rw [hs0]; simp)
        rw [hs0]
        refine ⟨fun s hs => ?_, fun d hd hne => ?_, ?_⟩
        · rcases List.mem_append.1 hs with hs | hs
          · obtain ⟨d, q1, q2⟩ := i1 s hs
            exact ⟨d, by omega, q2⟩
          · obtain rfl := List.mem_singleton.1 hs
            exact ⟨k, by omega, hd0, hc⟩
        · rcases Nat.lt_or_ge d k with h | h
          · obtain ⟨s, hs, e⟩ := i2 d h hne
            exact ⟨s, List.mem_append_left _ hs, e⟩
          · exact ⟨s0, by simp, by rw [hd0]; omega⟩
        · rw [List.map_append, List.nodup_append]
          refine ⟨i3, by simp, fun a ha b hb e => ?_⟩
          obtain ⟨s, hs, rfl⟩ := List.mem_map.1 ha
          obtain ⟨d, q1, q2, _⟩ := i1 s hs
          simp at hb
          subst hb
          omega
  obtain ⟨s1, s2, s3⟩ := hS M.os.length (Nat.le_refl _)
  obtain ⟨_, _, _, e4, _, _⟩ := sentOut_same X M.os.length
  have hl : (X.sentOut M.os.length).1.os.length = M.os.length := by
    have key : ∀ k, (X.sentOut k).1.os.length = X.os.length := fun k => by
      induction k with
      | zero => rfl
      | succ k ih =>
        show ((X.sentOut k).1.sentTo k).1.os.length = _
        rw [← ih]
        unfold Ag.sentTo
        cases (X.sentOut k).1.os[k]? with
        | none => rfl
        | some o => simp only; split <;> simp
    rw [key, hos]
  rw [ht]
  refine ⟨⟨fun d o ho => ?_, fun d o ho => ?_⟩, s3, fun s hs => ?_, hl, fun s hs d o e ho => ?_⟩
  · have hdl : d < M.os.length := by rw [← hl]; exact (List.getElem?_eq_some_iff.1 ho).1
    obtain ⟨o0, ho0⟩ : ∃ o0, M.os[d]? = some o0 := ⟨_, List.getElem?_eq_getElem hdl⟩
    have hb' : (X.sentOut M.os.length).1.bs = M.bs := e4.trans hbs
    rw [hb']
    by_cases hw : o.way = -1
    · rw [if_pos hw]
      by_cases hc : pcount M.bs d = 0
      · omega
      · obtain ⟨_, o', g2, g3⟩ := hB d o0 ho0 hc
        have ho2 : (X.sentOut M.os.length).1.os[d]? = some o := ho
        rw [sentOut_at X M.os.length d hdl, g2] at ho2
        cases ho2
        exact absurd hw g3
    · rw [if_neg hw]
      exact hn d o0 ho0
  · have hdl : d < M.os.length := by rw [← hl]; exact (List.getElem?_eq_some_iff.1 ho).1
    obtain ⟨o0, ho0⟩ : ∃ o0, M.os[d]? = some o0 := ⟨_, List.getElem?_eq_getElem hdl⟩
    have ho2 : (X.sentOut M.os.length).1.os[d]? = some o := ho
    rw [sentOut_at X M.os.length d hdl] at ho2
    by_cases hc : pcount M.bs d = 0
    · rw [sentTo_rests1 (hA d hc), hos, ho0] at ho2
      cases ho2
      refine ⟨fun h => absurd (hidle d _ ho0) h, fun ⟨s, hs, e⟩ => ?_⟩
      obtain ⟨d', _, q2, q3⟩ := s1 s hs
      have : d' = d := by omega
      subst this
      exact absurd hc q3
    · obtain ⟨_, o', g2, g3⟩ := hB d o0 ho0 hc
      rw [g2] at ho2
      cases ho2
      exact ⟨fun _ => s2 d hdl hc, fun _ => g3⟩
  · obtain ⟨d, q1, q2, _⟩ := s1 s hs
    exact ⟨d, q2, q1⟩
  · have hdl : d < M.os.length := by rw [← hl]; exact (List.getElem?_eq_some_iff.1 ho).1
    obtain ⟨d', q1, q2, q3⟩ := s1 s hs
    obtain rfl : d' = d := by omega
    have ho2 : (X.sentOut M.os.length).1.os[d']? = some o := ho
    rw [sentOut_at X M.os.length d' hdl] at ho2
    have hin := sentOut_in X M.os.length s hs
    obtain ⟨d2, _, hin⟩ := hin
    have e2 := sentTo_d X d2 s hin
    obtain rfl : d2 = d' := by omega
    exact sentTo_try X d2 s hin o ho2

/-- The log of a Compact leads to the same. -/
theorem LInv.compacted {M : Ag} {t : Nat} (h : LInv M) (hi : Inv M t) (hid : ∀ (i : Nat) b, M.bs[i]? = some b → b.id = kid i) (h100 : M.bs.length ≤ 100) : LInv M.compacted := by
  obtain ⟨w1, w2⟩ := way_leads hi hid h100
  refine ⟨?_, h.quota⟩
  show Leads (Ag.new M.c M.D M.ns) 0 (recB 61 M.way) M.core
  by_cases hw : M.way = []
  · rw [hw] at w2
    have e : recB 61 M.way = [] := by unfold recB; rw [if_pos hw]
    rw [e, ← w2]
    exact Leads.refl _ _
  · have hl := hi.compacted_len
    unfold recB at hl
    rw [if_neg hw, List.length_append] at hl
    have := Leads.record (M := Ag.new M.c M.D M.ns) (n := 0) (by' := 61) hw hi.tell (by omega) w1 (by simp [mayStand]) (by rw [w2]; exact (quota_core M).2 h.quota)
    rw [w2] at this
    exact this
/-- How long it is at the most. -/
def mostOf (bs : List Bat) : Nat := (bs.map (fun b => 16 + b.id.length + b.ten.length + b.body.length)).sum
theorem took_len : ∀ bs : List Bat, ((bs.map tookEv).flatMap Ev.bytes).length + 11 * bs.length ≤ mostOf bs
  | [] => by simp [mostOf]
  | b :: bs => by
    have ih := took_len bs
    have h1 : (tookEv b).bytes.length = 5 + (b.ten.length + b.id.length + b.body.length) := by
      unfold Ev.bytes
      rw [if_pos (show (tookEv b).kind = 0 from rfl)]
      simp [tookEv, evBytes, evParts, part]
      omega
    simp only [mostOf, List.map_cons, List.flatMap_cons, List.length_append, List.sum_cons, List.length_cons] at ih ⊢
    omega
theorem small_len {es : List Ev} (h : ∀ e ∈ es, e.kind ≠ 0) : (es.flatMap Ev.bytes).length = 3 * es.length := by
  induction es with
  | nil => rfl
  | cons e es ih =>
    rw [List.flatMap_cons, List.length_append, ih (fun x hx => h x (List.mem_cons_of_mem _ hx))]
    have : e.bytes.length = 3 := by unfold Ev.bytes; rw [if_neg (h e (by simp))]; rfl
    rw [this, List.length_cons]
    omega
theorem ends_kind (bs : List Bat) : ∀ k, ∀ e ∈ endsOf bs k, e.kind ≠ 0
  | 0, e, he => by cases he
  | k + 1, e, he => by
    unfold endsOf at he
    rcases List.mem_append.1 he with h | h
    · exact ends_kind bs k e h
    · cases hb : bs[k]? with
      | none => rw [hb] at h; cases h
      | some b =>
        rw [hb] at h
        simp only [endEv] at h
        split at h
        · obtain rfl := List.mem_singleton.1 h; simp [Ev.of]
        · split at h
          · obtain rfl := List.mem_singleton.1 h; simp [Ev.of]
          · cases h
theorem Inv.short_len {M : Ag} {t : Nat} (h : Inv M t) : (recB 61 M.way).length ≤ 16 + mostOf M.bs := by
  have h1 := took_len M.bs
  have h2 := small_len (ends_kind M.bs M.bs.length)
  have h3 := endsOf_le M.bs M.bs.length
  have h4 := small_len (es := M.dead.map (diedEv M.bs)) (fun e he => by obtain ⟨p, _, rfl⟩ := List.mem_map.1 he; simp [diedEv, Ev.of])
  have h5 := nodup_le M.bs.length M.dead h.ddn (fun p hp => by obtain ⟨b, hb, _⟩ := (h.dead p).1 hp; exact (List.getElem?_eq_some_iff.1 hb).1)
  rw [List.length_map] at h4
  unfold recB
  split
  · simp
  · rw [List.length_append]
    unfold Ag.way
    rw [List.flatMap_append, List.flatMap_append, List.length_append, List.length_append]
    simp only [List.length_cons, List.length_nil]
    omega

/-- An agent that has heard nothing bad. -/
structure GInv (zs : List Int) (M : Ag) : Prop where
  c : M.c = madeC zs
  fr : ∀ r ∈ M.rt, r.fr ≤ M.now
  os : ∀ o ∈ M.os, o.trip = false ∧ o.fl = 0
theorem GInv.crashed {zs : List Int} {M : Ag} (hc : M.c = madeC zs) : GInv zs M.crashed := by
  refine ⟨hc, fun r hr => ?_, fun o ho => ?_⟩
  · rw [(List.mem_replicate.1 (show r ∈ List.replicate M.bs.length (⟨0, M.c.ba⟩ : Ret) from hr)).2]
    exact Int.le_refl _
  · rw [(List.mem_replicate.1 ho).2]
    exact ⟨rfl, rfl⟩
theorem GInv.ticked {zs : List Int} {M : Ag} (h : GInv zs M) (hidle : ∀ (d : Nat) (o : Out), M.os[d]? = some o → o.way = -1) {ms : Int} (h0 : 0 ≤ ms) : GInv zs (M.ticked ms 0).1 := by
  obtain ⟨X, hX⟩ : ∃ X, M.later ms = X := ⟨_, rfl⟩
  have ht : (M.ticked ms 0).1 = (X.sentOut X.os.length).1 := by
    unfold Ag.ticked
    rw [hX, timed_idle (M := X) (fun d o ho => hidle d o (by rw [← hX] at ho; exact ho)) 0]
  have hG : GInv zs X := by
    rw [← hX]
    exact ⟨h.c, fun r hr => by have := h.fr r hr; show r.fr ≤ M.now + ms; omega, h.os⟩
  have key : ∀ k, GInv zs (X.sentOut k).1 := fun k => by
    induction k with
    | zero => exact hG
    | succ k ih =>
      show GInv zs ((X.sentOut k).1.sentTo k).1
      unfold Ag.sentTo
      cases ho : (X.sentOut k).1.os[k]? with
      | none => exact ih
      | some o =>
        simp only
        split
        · exact ih
        · refine ⟨ih.c, ih.fr, fun x hx => ?_⟩
          rcases List.mem_or_eq_of_mem_set (show x ∈ (X.sentOut k).1.os.set k _ from hx) with hx | rfl
          · exact ih.os x hx
          · exact ih.os o (List.mem_of_getElem? ho)
  rw [ht]
  exact key _
theorem GInv.replied {zs : List Int} {M : Ag} {t d : Nat} {o : Out} (h : GInv zs M) (hi : Inv M t) (ht : t ≤ 10000000000000) (ho : M.os[d]? = some o) (hw : o.way ≠ -1) : GInv zs (M.replied d true 0) := by
  obtain ⟨p, b, r, hs, _⟩ := hi.setOk ht (Int.le_refl 0) ho hw
  obtain ⟨k, _, _, f, e⟩ := replied_eq hs true
  have h4 := pickN_lt (zs.getD 4 0) (n := 8) (by omega)
  have h8 := pickN_lt (zs.getD 8 0) (n := 4) (by omega)
  obtain ⟨a1, a2, _⟩ := hi.os d o ho
  have hwi : M.c.wi ≤ 8 := by rw [h.c]; show (1 : Int) + (pickN (zs.getD 4 0) 8 : Int) ≤ 8; omega
  have hth : M.c.th = quarter (pickN (zs.getD 8 0) 4) := by rw [h.c]; rfl
  obtain ⟨g1, g2⟩ := h.os o (List.mem_of_getElem? ho)
  have hbr : ({ o with way := -1 }.heard M.c M.now true).trip = false ∧ ({ o with way := -1 }.heard M.c M.now true).fl = 0 := by
    have hn := none_fail h8 (r := (o.res + 1).toNat) (by omega) (by omega)
    rw [show (((o.res + 1).toNat : Nat) : Int) = o.res + 1 by omega] at hn
    unfold Out.heard Out.counted
    simp only [g1, g2, Bool.false_eq_true, if_false, if_true, hth, hn, Bool.and_false]
    split
    · exact ⟨rfl, rfl⟩
    · exact ⟨rfl, rfl⟩
  rw [e, over_eq hs true]
  refine ⟨h.c, h.fr, fun x hx => ?_⟩
  rcases List.mem_or_eq_of_mem_set (show x ∈ M.os.set d _ from hx) with hx | rfl
  · exact h.os x hx
  · exact hbr

/-- Two agents that differ in their logs alone. -/
theorem sentTo_log (X : Ag) (l : List UInt8) (d : Nat) : ({ X with log := l } : Ag).sentTo d = ({ (X.sentTo d).1 with log := l }, (X.sentTo d).2) := by
  have hz : ({ X with log := l } : Ag).sizes d = X.sizes d := rfl
  have hq : ({ X with log := l } : Ag).quanta = X.quanta := rfl
  unfold Ag.sentTo
  rw [hz, hq]
  show (match X.os[d]? with | none => _ | some o => _) = _
  cases X.os[d]? with
  | none => rfl
  | some o => simp only; split <;> rfl
theorem sentOut_log (X : Ag) (l : List UInt8) : ∀ k, ({ X with log := l } : Ag).sentOut k = ({ (X.sentOut k).1 with log := l }, (X.sentOut k).2)
  | 0 => rfl
  | k + 1 => by
    show (((({ X with log := l } : Ag).sentOut k).1.sentTo k).1, (({ X with log := l } : Ag).sentOut k).2 ++ ((({ X with log := l } : Ag).sentOut k).1.sentTo k).2) = _
    rw [sentOut_log X l k]
    simp only
    rw [sentTo_log]
    rfl
theorem ticked_log {X : Ag} (hidle : ∀ (d : Nat) (o : Out), X.os[d]? = some o → o.way = -1) (ms : Int) (l : List UInt8) : ({ X with log := l } : Ag).ticked ms 0 = ({ (X.ticked ms 0).1 with log := l }, (X.ticked ms 0).2) := by
  unfold Ag.ticked
  rw [timed_idle (M := ({ X with log := l } : Ag).later ms) hidle 0, timed_idle (M := X.later ms) hidle 0]
  exact sentOut_log (X.later ms) l _
theorem replied_log {X : Ag} {t d : Nat} {o : Out} (hi : Inv X t) (ht : t ≤ 10000000000000) (ho : X.os[d]? = some o) (hw : o.way ≠ -1) (l : List UInt8) : ∃ l', ({ X with log := l } : Ag).replied d true 0 = { X.replied d true 0 with log := l' } := by
  obtain ⟨p, b, r, hs, _⟩ := hi.setOk ht (Int.le_refl 0) ho hw
  have hs' : SetOk ({ X with log := l } : Ag) d o p b r 0 := ⟨hs.ho, hs.way, hs.hb, hs.hr, hs.f0, hs.f1, hs.r0, hs.r1, hs.l0, hs.l1, hs.c, hs.p1, hs.p2, hs.dr, hs.n0, hs.n1⟩
  obtain ⟨_, _, _, f, e⟩ := replied_eq hs true
  obtain ⟨_, _, _, f', e'⟩ := replied_eq hs' true
  rw [e', over_eq hs' true, e, over_eq hs true]
  exact ⟨_, rfl⟩
/-- Nobody waits. -/
theorem waits_zero {bs : List Bat} (h : ∀ b ∈ bs, b.st ≠ 1) (x : List UInt8) : waits bs x = 0 := by
  have hp : ∀ d : Int, pend bs d x = [] := fun d => List.eq_nil_iff_forall_not_mem.2 fun i hi => by
    obtain ⟨b, h1, _, _, h4⟩ := mem_pend.1 hi
    exact h b (List.mem_of_getElem? h1) h4
  unfold waits
  simp [hp]
end Go.Proofs.YtojpjaifhjigfabGreatDoor

/- Dead, of whatever agent. -/
namespace Go.Proofs.YtojpjaifhjigfabGreatDoor
open Go.RowKit Go.Maps

/-- Dead of an agent. -/
theorem adead {wr : World} {L : Labs} {who g : Nat} {M : Ag} {t : Nat} (hA : AgentAt wr L who g M) (hi : Inv M t) :
    Calls Tryz.prog 12 #[.pointer (some ⟨g, 0, none⟩)] wr fun e w' => ∃ gd, e = .returned (.slice (some ⟨gd, 0, none⟩) M.ids.length M.ids.length) ∧ (∀ (i : Nat) (x : List UInt8), M.ids[i]? = some x → w'.cell? ⟨gd, i, none⟩ = some (encStr x)) ∧ gd < w'.heap.size ∧ Below wr.heap.size wr w' := by
  refine (dead_any L who g M wr hA hi.dead_lt hi.b120 hi.dead_le).mono ?_
  rintro e w' ⟨gd, rfl, h1, h2, h3⟩
  refine ⟨gd, rfl, fun i x hx => ?_, ?_, h3⟩
  · have hc := h2.cells (show (Value.slice (some ⟨gd, 0, none⟩) M.ids.length M.ids.length).ownBlock = some gd by simp [Value.ownBlock]) i (encStr x) (by simp [hx])
    rw [Addr.add_mid, Nat.zero_add] at hc
    exact hc
  · exact (h2.lt gd (by simp [Value.ownBlock])).2
end Go.Proofs.YtojpjaifhjigfabGreatDoor

/- conduitkeep.alike; logs that are the same tell the same. -/
namespace Go.Proofs.YtojpjaifhjigfabGreatDoor
open Go.RowKit Go.Maps

/-- Every log is read to some end. -/
theorem replays_total : ∀ (n : Nat) (M : Ag) (k : Nat) (rest : List UInt8), rest.length ≤ n → ∃ res, Replays M k rest res
  | 0, M, k, rest, h => by
    obtain rfl := List.eq_nil_of_length_eq_zero (by omega : rest.length = 0)
    exact ⟨_, Replays.done M k⟩
  | n + 1, M, k, rest, h => by
    by_cases hr : rest = []
    · subst hr; exact ⟨_, Replays.done M k⟩
    by_cases h1 : (Rd.record ⟨rest, false⟩).2.2.short = true ∧ (Rd.record ⟨rest, false⟩).1 = 43
    · exact ⟨_, Replays.cut M k rest hr h1.1 h1.2⟩
    cases h2 : mayStand (Rd.record ⟨rest, false⟩).1 k with
    | false => exact ⟨_, Replays.stand M k rest hr h1 h2⟩
    | true =>
      cases h3 : M.redo (Rd.record ⟨rest, false⟩).2.1 with
      | none => exact ⟨_, Replays.none M k rest hr h1 h2 h3⟩
      | some M' =>
        by_cases h4 : (Rd.record ⟨rest, false⟩).2.1 ≠ [] ∧ M'.QuotaOk
        · cases rest with
          | nil => exact absurd rfl hr
          | cons x l =>
            have hl := record_len x l
            rw [List.length_cons] at h
            obtain ⟨res, hres⟩ := replays_total n M' (k + ((x :: l).length - (Rd.record ⟨x :: l, false⟩).2.2.rest.length)) (Rd.record ⟨x :: l, false⟩).2.2.rest (by omega)
            exact ⟨res, Replays.step M k (x :: l) M' res hr h1 h2 h3 h4 hres⟩
        · exact ⟨_, Replays.quota M k rest M' hr h1 h2 h3 h4⟩
theorem core_eq {M M' : Ag} (h : LInv M) (h' : LInv M') (e1 : M.c = M'.c) (e2 : M.D = M'.D) (e3 : M.ns = M'.ns) (e : M.log = M'.log) : M.bs = M'.bs ∧ M.dead = M'.dead := by
  obtain ⟨res, hr⟩ := replays_total M.log.length (Ag.new M.c M.D M.ns) 0 M.log (Nat.le_refl _)
  have h1 := h.log.all hr
  rw [e1, e2, e3, e] at hr
  have h2 := h'.log.all hr
  rw [h1] at h2
  have h3 : M.core = M'.core := (Prod.mk.inj (Option.some.inj h2)).1
  have h4 : M.core.bs = M'.core.bs := congrArg Ag.bs h3
  have h5 : M.core.dead = M'.core.dead := congrArg Ag.dead h3
  exact ⟨h4, h5⟩
theorem cell_alloc_of {w : World} {a : Addr} {v : Value} (h : w.cell? a = some v) (o : Obj) : (w.alloc o).cell? a = some v := by
  rw [World.cell?_alloc_some w a o (by rw [h]; rfl)]
  exact h
theorem infoFact8 : (Tryz.prog.info? 50).map (·.size) = some 8 := by kernel_rfl
/-- A run, its agent and what they say. -/
structure AlAt (w : World) (L : Labs) (gr g cm : Nat) (zs : List Int) (R : Rn) (M : Ag) (t : Nat) : Prop where
  run : RunAt w L gr g cm (madeC zs) R
  ag : AgentAt w L 1 g M
  bs : R.fs.map Fa.b = M.bs
  i : Inv M t
  f100 : R.fs.length ≤ 100
theorem AlAt.below {w w' : World} {L : Labs} {gr g cm : Nat} {zs : List Int} {R : Rn} {M : Ag} {t : Nat} (h : AlAt w L gr g cm zs R M t) (hb : Below w.heap.size w w') : AlAt w' L gr g cm zs R M t :=
  ⟨h.run.keep (Step.of_below (p := fun _ => False) hb) (fun _ h => h), h.ag.keep (Step.of_below (p := fun _ => False) hb) (fun _ h => h), h.bs, h.i, h.f100⟩
theorem AlAt.cells {w : World} {L : Labs} {gr g cm n : Nat} {zs : List Int} {R : Rn} {M : Ag} {t : Nat} (h : AlAt w L gr g cm zs R M t) (hn : R.fs.length = n) : ∃ fa fk, w.cell? ⟨gr, 12, none⟩ = some (.slice fa n fk) ∧ w.cell? ⟨gr, 0, none⟩ = some (.pointer (some ⟨g, 0, none⟩)) ∧ ∀ (k : Nat) (f : Fa), R.fs[k]? = some f → ∃ gf, fa = some ⟨gf, 0, none⟩ ∧ w.rangeAt gf (k * 8) f.cells := by
  obtain ⟨fv, wv, hP⟩ := h.run
  obtain ⟨fa, fk, rfl, _⟩ := hP.fa.shape
  refine ⟨fa, fk, by have := hP.blk.1.cell 12; rw [← hn]; exact this, hP.blk.1.cell 0, fun k f hf => ?_⟩
  obtain ⟨gf, fk', e, _, hcf, _⟩ := hP.fact hf
  simp only [Value.slice.injEq] at e
  exact ⟨gf, e.1, hcf⟩
end Go.Proofs.YtojpjaifhjigfabGreatDoor

/- conduitkeep.alike: the walk. -/
namespace Go.Proofs.YtojpjaifhjigfabGreatDoor
open Go.RowKit Go.Maps

def AlikeR (M1 M3 : Ag) (w : World) (e : Ending) (w' : World) : Prop := ∃ sm, e = .returned (.bool sm) ∧ (M1.bs = M3.bs → M1.dead = M3.dead → sm = true) ∧ Below w.heap.size w w'

set_option maxRecDepth 100000 in
set_option maxHeartbeats 16000000 in
theorem kalike_any (L1 L3 : Labs) (gr1 g1 cm1 gr3 g3 cm3 : Nat) (zs : List Int) (R1 R3 : Rn) (M1 M3 : Ag) (t1 t3 : Nat) (w : World) (h1 : AlAt w L1 gr1 g1 cm1 zs R1 M1 t1) (h3 : AlAt w L3 gr3 g3 cm3 zs R3 M3 t3) :
    Calls Tryz.prog 7 #[.pointer (some ⟨gr1, 0, none⟩), .pointer (some ⟨gr3, 0, none⟩)] w fun e w' => AlikeR M1 M3 w e w' := by
  obtain ⟨n1, hn1⟩ : ∃ n1, R1.fs.length = n1 := ⟨_, rfl⟩
  obtain ⟨n3, hn3⟩ : ∃ n3, R3.fs.length = n3 := ⟨_, rfl⟩
  have hl1 : n1 ≤ 100 := by rw [← hn1]; exact h1.f100
  have hl3 : n3 ≤ 100 := by rw [← hn3]; exact h3.f100
  have hb1 : M1.bs.length = n1 := by rw [← h1.bs, List.length_map]; exact hn1
  have hb3 : M3.bs.length = n3 := by rw [← h3.bs, List.length_map]; exact hn3
  obtain ⟨fa1, fk1, a12, _, _⟩ := h1.cells hn1
  obtain ⟨fa3, fk3, b12, _, _⟩ := h3.cells hn3
  have H1 := hide h1
  have H3 := hide h3
  have Hn1 := hide hn1
  have Hn3 := hide hn3
  have Hb1 := hide hb1
  have Hb3 := hide hb3
  clear h1 h3 hn1 hn3 hb1 hb3
  by_cases hne : n1 = n3
  · subst hne
    go_enter Tryz.func7, Tryz.ntmps7
    go_wp2_with fail
    go_quiet (fail)
    go_wp2_with fail
    clear a12 b12
    go_loopw [5] (fun i wr => ∃ k : Nat, k ≤ n1 ∧ i = .int .i64 k ∧ Below w.heap.size w wr) (fun i _ => n1 - (intOf i).toNat)
    case atStart => exact ⟨0, Nat.zero_le _, rfl, below_drewN' w _⟩
    case round =>
      obtain ⟨k, hk, rfl, hb⟩ := hrel
      have hA1 := H1.out.below hb
      have hA3 := H3.out.below hb
      obtain ⟨fa1, fk1, a12, a0, ha⟩ := hA1.cells Hn1.out
      obtain ⟨fa3, fk3, b12, b0, hc⟩ := hA3.cells Hn3.out
      by_cases hlt : k < n1
      · have hltI : (k : Int) < (n1 : Int) := by omega
        obtain ⟨f1, hf1⟩ : ∃ f, R1.fs[k]? = some f := ⟨_, List.getElem?_eq_getElem (by rw [Hn1.out]; exact hlt)⟩
        obtain ⟨f3, hf3⟩ : ∃ f, R3.fs[k]? = some f := ⟨_, List.getElem?_eq_getElem (by rw [Hn3.out]; exact hlt)⟩
        have hsame : M1.bs = M3.bs → f1.b = f3.b := fun e => by
          have q1 := map_at hA1.bs hf1
          have q3 := map_at hA3.bs hf3
          rw [e, q3] at q1
          exact (Option.some.inj q1).symm
        obtain ⟨gf1, rfl, hr1⟩ := ha k f1 hf1
        obtain ⟨gf3, rfl, hr3⟩ := hc k f3 hf3
        obtain ⟨_, e3, hr3'⟩ : ∃ o : Nat, o = 0 ∧ ∀ o, (wr.alloc o).rangeAt gf3 (k * 8) f3.cells := ⟨0, rfl, fun o => by
          obtain ⟨fa', fk', q12, _, hq⟩ := (hA3.below ((Below.refl wr.heap.size wr).alloc (Nat.le_refl _) o)).cells Hn3.out
          obtain ⟨g', e', hr'⟩ := hq k f3 hf3
          have : fa' = some ⟨gf3, 0, none⟩ := by
            have q2 := (cell_alloc_of b12 o).symm.trans q12
            simp only [Option.some.injEq, Value.slice.injEq] at q2
            exact q2.1.symm
          rw [this] at e'
          simp only [Option.some.injEq, Addr.mk.injEq, and_true] at e'
          rw [e']
          exact hr'⟩
        have b12a : ∀ o, (wr.alloc o).cell? ⟨gr3, 12, none⟩ = some (.slice (some ⟨gf3, 0, none⟩) n1 fk3) := fun o => cell_alloc_of b12 o
        have p0 := hr1 0 _ rfl
        have p1 := hr1 1 _ rfl
        have p2 := hr1 2 _ rfl
        have p3 := hr1 3 _ rfl
        have p4 := hr1 4 _ rfl
        have p5 := hr1 5 _ rfl
        have p6 := hr1 6 _ rfl
        have p7 := hr1 7 _ rfl
        have r0 := fun o => hr3' o 0 _ rfl
        have r1 := fun o => hr3' o 1 _ rfl
        have r2 := fun o => hr3' o 2 _ rfl
        have r3 := fun o => hr3' o 3 _ rfl
        have r4 := fun o => hr3' o 4 _ rfl
        have r5 := fun o => hr3' o 5 _ rfl
        have r6 := fun o => hr3' o 6 _ rfl
        have r7 := fun o => hr3' o 7 _ rfl
        simp only [Nat.add_zero] at p0 r0
        have Hsame := hide hsame
        have HB2 : Hid (∀ o1 o2, Below w.heap.size w ((wr.alloc o1).alloc o2)) := fun o1 o2 => below_alloc (below_alloc hb o1) o2
        obtain ⟨⟨d1, te1, i1, bo1, s1, l1⟩, af1, sn1⟩ := f1
        obtain ⟨⟨d3, te3, i3, bo3, s3, l3⟩, af3, sn3⟩ := f3
        simp only [Bat.mk.injEq] at Hsame
        simp only at p0 p1 p2 p3 p4 p5 p6 p7 r0 r1 r2 r3 r4 r5 r6 r7
        clear hA1 hA3 ha hc hf1 hf3 hsame hr1 hr3 hr3' hb e3
        by_cases e1 : i1 = i3
        · subst e1
          by_cases e2 : s1 = s3
          · subst e2
            by_cases e3 : l1 = l3
            · subst e3
              by_cases e4 : s1 = 1
              · subst e4
                by_cases e5 : d1 = d3
                · subst e5
                  by_cases e6 : te1 = te3
                  · subst e6
                    by_cases e7 : bo1 = bo3
                    · subst e7
                      go_wp2_with fail
                      go_roundw
                      case rel => exact ⟨k + 1, by omega, by go_num, HB2.out _ _⟩
                      case measure => simp [intOf]; omega
                    · have q : (bo1 == bo3) = false := by simpa using e7
                      go_wp2_with fail
                      go_ret
                      exact ⟨false, rfl, fun h _ => absurd (Hsame.out h).2.2.2.1 e7, HB2.out _ _⟩
                  · have q : (te1 == te3) = false := by simpa using e6
                    go_wp2_with fail
                    go_ret
                    exact ⟨false, rfl, fun h _ => absurd (Hsame.out h).2.1 e6, HB2.out _ _⟩
                · have q : (d1 == d3) = false := by simpa using e5
                  go_wp2_with fail
                  go_ret
                  exact ⟨false, rfl, fun h _ => absurd (Hsame.out h).1 e5, HB2.out _ _⟩
              · have q : (s1 == 1) = false := by simpa using e4
                go_wp2_with fail
                go_roundw
                case rel => exact ⟨k + 1, by omega, by go_num, HB2.out _ _⟩
                case measure => simp [intOf]; omega
            · have q : (l1 == l3) = false := by simpa using e3
              go_wp2_with fail
              go_ret
              exact ⟨false, rfl, fun h _ => absurd (Hsame.out h).2.2.2.2.2 e3, HB2.out _ _⟩
          · have q : (s1 == s3) = false := by simpa using e2
            go_wp2_with fail
            go_ret
            exact ⟨false, rfl, fun h _ => absurd (Hsame.out h).2.2.2.2.1 e2, HB2.out _ _⟩
        · have q : (i1 == i3) = false := by simpa using e1
          go_wp2_with fail
          go_ret
          exact ⟨false, rfl, fun h _ => absurd (Hsame.out h).2.2.1 e1, HB2.out _ _⟩
      · obtain rfl : n1 = k := by omega
        have hltI : ¬ ((n1 : Int) < (n1 : Int)) := by omega
        have HD1 := hide (adead hA1.ag hA1.i)
        have HD3 := hide (fun W (hW : Below wr.heap.size wr W) => adead (hA3.below hW).ag hA3.i)
        have HC3 : Hid (∀ W, Below wr.heap.size wr W → W.cell? ⟨gr3, 0, none⟩ = some (.pointer (some ⟨g3, 0, none⟩))) := fun W hW => by
          obtain ⟨_, _, _, q, _⟩ := (hA3.below hW).cells Hn3.out
          exact q
        have Hids : Hid (M1.bs = M3.bs → M1.dead = M3.dead → M1.ids = M3.ids) := fun e1 e2 => by unfold Ag.ids; rw [e1, e2]
        obtain ⟨nd1, hnd1⟩ : ∃ nd, M1.ids.length = nd := ⟨_, rfl⟩
        obtain ⟨nd3, hnd3⟩ : ∃ nd, M3.ids.length = nd := ⟨_, rfl⟩
        have hd1 : nd1 ≤ 120 := by
          have q1 := hA1.i.dead_le
          have q2 : M1.ids.length = M1.dead.length := by simp [Ag.ids]
          omega
        have Hnd1 := hide hnd1
        have Hnd3 := hide hnd3
        rw [hnd1] at HD1
        rw [hnd3] at HD3
        have HB := hide hb
        clear hA1 hA3 ha hc hnd1 hnd3 hb b12 b0
        go_wp2_with fail
        refine HD1.out.mono ?_
        rintro e wA ⟨gd, rfl, hcd, hgd, hbA⟩
        have Hcd := hide hcd
        have HbA := hide hbA
        have b0 := HC3.out wA hbA
        clear hcd hbA HD1 a12 a0 HC3
        go_wp2_with fail
        refine (HD3.out _ HbA.out).mono ?_
        rintro e wB ⟨gk, rfl, hck, hgk, hbB⟩
        have Hck := hide hck
        have HcdB : Hid (∀ (i : Nat) (x : List UInt8), M1.ids[i]? = some x → wB.cell? ⟨gd, i, none⟩ = some (encStr x)) := fun i x hx => (hbB.cell (p := ⟨gd, i, none⟩) hgd).trans (Hcd.out i x hx)
        have hgdB : gd < wB.heap.size := Nat.lt_of_lt_of_le hgd hbB.size
        have HB8 : Hid (Below w.heap.size w wB) := HB.out.trans ((bl_trans HbA.out hbB).mono HB.out.size)
        clear hck hbB HD3 HbA Hcd hgd HB b0
        by_cases hnd : nd1 = nd3
        · subst hnd
          go_wp2_with fail
          generalize hwB : wB = w8 at *
          go_loopw [10] (fun i wr => ∃ k : Nat, k ≤ nd1 ∧ i = .int .i64 k ∧ Below w8.heap.size w8 wr) (fun i _ => nd1 - (intOf i).toNat)
          case atStart => exact ⟨0, Nat.zero_le _, rfl, Below.refl _ _⟩
          case round =>
            obtain ⟨k, hk, rfl, hb⟩ := hrel
            by_cases hlt : k < nd1
            · have hltI2 : (k : Int) < (nd1 : Int) := by omega
              obtain ⟨x, hx⟩ : ∃ x, M1.ids[k]? = some x := ⟨_, List.getElem?_eq_getElem (by rw [Hnd1.out]; exact hlt)⟩
              obtain ⟨y, hy⟩ : ∃ y, M3.ids[k]? = some y := ⟨_, List.getElem?_eq_getElem (by rw [Hnd3.out]; exact hlt)⟩
              have e1 : wr.cell? ⟨gd, k, none⟩ = some (encStr x) := (hb.cell (p := ⟨gd, k, none⟩) hgdB).trans (HcdB.out k x hx)
              have e2 : wr.cell? ⟨gk, k, none⟩ = some (encStr y) := (hb.cell (p := ⟨gk, k, none⟩) hgk).trans (Hck.out k y hy)
              have Hxy : Hid (M1.bs = M3.bs → M1.dead = M3.dead → x = y) := fun h1 h2 => by
                have q := Hids.out h1 h2
                rw [q, hy] at hx
                exact (Option.some.inj hx).symm
              have Hb := hide hb
              clear hb hx hy
              by_cases exy : x = y
              · subst exy
                go_wp2_with fail
                go_quiet (fail)
                go_wp2_with fail
                go_roundw
                case rel => exact ⟨k + 1, by omega, by go_num, Hb.out.trans ((below_drewN' wr _).mono Hb.out.size)⟩
                case measure => simp [intOf]; omega
              · have q : (x == y) = false := by simpa using exy
                go_wp2_with fail
                go_quiet (fail)
                go_wp2_with fail
                go_ret
                exact ⟨false, rfl, fun h1 h2 => absurd (Hxy.out h1 h2) exy, HB8.out.trans ((Hb.out.trans ((below_drewN' wr _).mono Hb.out.size)).mono HB8.out.size)⟩
            · obtain rfl : nd1 = k := by omega
              have hltI2 : ¬ ((nd1 : Int) < (nd1 : Int)) := by omega
              have HB9 := hide (HB8.out.trans (hb.mono HB8.out.size))
              clear hb HB8 HcdB Hck
              go_wp2_with fail
              go_ret
              exact ⟨true, rfl, fun _ _ => rfl, HB9.out⟩
        · have hndb : ((nd1 : Int) == (nd3 : Int)) = false := by simp; omega
          go_wp2_with fail
          go_ret
          exact ⟨false, rfl, fun h1 h2 => absurd (by rw [← Hnd1.out, ← Hnd3.out, Hids.out h1 h2]) hnd, HB8.out⟩
  · have hneb : ((n1 : Int) == (n3 : Int)) = false := by simp; omega
    go_enter Tryz.func7, Tryz.ntmps7
    go_wp2_with fail
    go_quiet (fail)
    go_wp2_with fail
    go_ret
    exact ⟨false, rfl, fun hb _ => absurd (by rw [← Hb1.out, ← Hb3.out, hb]) hne, below_drewN' w _⟩
end Go.Proofs.YtojpjaifhjigfabGreatDoor
