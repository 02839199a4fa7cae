/- Steps of the proof (several texts in one): Again2, Again3, Again4. -/
import Derived.Test.YtojpjaifhjigfaaGreatDoorMKept29

/- Again: what two agents of one log do. -/
namespace Go.Proofs.YtojpjaifhjigfaaGreatDoor
open Go.RowKit Go.Maps

theorem sentOut_in (X : Ag) : ∀ k, ∀ s ∈ (X.sentOut k).2, ∃ d, d < k ∧ s ∈ (X.sentTo d).2
  | 0, s, hs => by cases hs
  | k + 1, s, hs => by
    rw [sentOut_succ2] at hs
    rcases List.mem_append.1 hs with h | h
    · obtain ⟨d, h1, h2⟩ := sentOut_in X k s h
      exact ⟨d, by omega, h2⟩
    · exact ⟨k, by omega, h⟩
theorem sentTo_try (X : Ag) (d : Nat) : ∀ s ∈ (X.sentTo d).2, ∀ o, (X.sentTo d).1.os[d]? = some o → o.sends = s.try' := fun s hs o ho => by
  unfold Ag.sentTo at hs ho
  cases h0 : X.os[d]? with
  | none => rw [h0] at hs; cases hs
  | some o1 =>
    rw [h0] at hs ho
    simp only at hs ho
    split at hs
    · cases hs
    · rename_i hc
      rw [if_neg hc] at ho
      obtain rfl := List.mem_singleton.1 hs
      have ho2 : (X.os.set d _)[d]? = some o := ho
      rw [List.getElem?_set_self (List.getElem?_eq_some_iff.1 h0).1] at ho2
      cases ho2
      rfl
/-- One tick, when nothing pauses: to each destination for which something waits one goes. -/
structure TickGo (M : Ag) (n : Nat) (x : Ag × List Sd) : Prop where
  liv : Liv x.2 n x.1
  nod : (x.2.map Sd.d).Nodup
  all : ∀ s ∈ x.2, ∃ d : Nat, s.d = (d : Int) ∧ d < M.os.length
  len : x.1.os.length = M.os.length
  tr : ∀ s ∈ x.2, ∀ (d : Nat) (o : Out), s.d = (d : Int) → x.1.os[d]? = some o → o.sends = s.try'
theorem Inv.tickGo {M : Ag} {t n : Nat} {ms : Int} (hi : Inv M t) (hrt0 : ∀ r ∈ M.rt, r.fr ≤ M.now + ms) (hun0 : ∀ o ∈ M.os, o.trip = true → o.unt ≤ M.now + ms) (hidle : ∀ (d : Nat) (o : Out), M.os[d]? = some o → o.way = -1) (h0 : 0 ≤ ms) (hn : ∀ (d : Nat) (o : Out), M.os[d]? = some o → pcount M.bs d ≤ n + 1) : TickGo M n (M.ticked ms 0) := by
  obtain ⟨X, hX⟩ : ∃ X, M.later ms = X := ⟨_, rfl⟩
  have hos : X.os = M.os := by rw [← hX]; rfl
  have hbs : X.bs = M.bs := by rw [← hX]; rfl
  have hns : X.ns = M.ns := by rw [← hX]; rfl
  have hrt : ∀ r ∈ X.rt, r.fr ≤ X.now := fun r hr => by
    rw [← hX] at hr ⊢
    exact hrt0 r hr
  have hun : ∀ o ∈ X.os, o.trip = true → o.unt ≤ X.now := fun o ho => by
    rw [← hX] at ho ⊢
    exact hun0 o ho
  have hnow : 0 ≤ X.now := by rw [← hX]; have := hi.nw0; show 0 ≤ M.now + ms; omega
  have ht : M.ticked ms 0 = X.sentOut M.os.length := by
    unfold Ag.ticked
    rw [hX, timed_idle (M := X) (fun d o ho => hidle d o (by rw [← hos]; exact ho)) 0, hos]
  have hA : ∀ d, pcount M.bs d = 0 → (X.sizes d).all (· == 0) = true := fun d hd => sizes_none (fun b hb hst => pcount_none hd b (by rw [← hbs]; exact hb) hst)
  have hB : ∀ (d : Nat) (o : Out), M.os[d]? = some o → pcount M.bs d ≠ 0 → (X.sentTo d).2.length = 1 ∧ ∃ o' : Out, (X.sentTo d).1.os[d]? = some o' ∧ o'.way ≠ -1 := fun d o ho hd => by
    obtain ⟨b, hb, hst, hdst⟩ := pcount_some hd
    refine sentTo_goes (by rw [hos]; exact ho) (hidle d o ho) (hun o (by rw [hos]; exact List.mem_of_getElem? ho)) (sizes_some (b := b) (by rw [hbs]; exact hb) hst hdst ?_ hrt hnow)
    rw [hns]
    exact (hi.each b hb).2.2.1
  have hS : ∀ k, k ≤ M.os.length → (∀ s ∈ (X.sentOut k).2, ∃ d : Nat, d < k ∧ s.d = (d : Int) ∧ pcount M.bs d ≠ 0) ∧ (∀ d, d < k → pcount M.bs d ≠ 0 → ∃ s ∈ (X.sentOut k).2, s.d = (d : Int)) ∧ ((X.sentOut k).2.map Sd.d).Nodup := fun k => by
    induction k with
    | zero => exact fun _ => ⟨fun s hs => (by cases hs), fun d hd => absurd hd (by omega), List.nodup_nil⟩
    | succ k ih =>
      intro hk
      obtain ⟨i1, i2, i3⟩ := ih (by omega)
      rw [sentOut_succ2]
      obtain ⟨o, ho⟩ : ∃ o, M.os[k]? = some o := ⟨_, List.getElem?_eq_getElem (by omega)⟩
      by_cases hc : pcount M.bs k = 0
      · rw [sentTo_rests (hA k hc), List.append_nil]
        refine ⟨fun s hs => ?_, fun d hd hne => ?_, i3⟩
        · obtain ⟨d, q1, q2⟩ := i1 s hs
          exact ⟨d, by omega, q2⟩
        · refine i2 d ?_ hne
          rcases Nat.lt_or_ge d k with h | h
          · exact h
          · exact absurd ((by omega : d = k) ▸ hc) hne
      · obtain ⟨g1, _⟩ := hB k o ho hc
        obtain ⟨s0, hs0⟩ : ∃ s0, (X.sentTo k).2 = [s0] := List.length_eq_one_iff.1 g1
        have hd0 : s0.d = (k : Int) := sentTo_d X k s0 (by rw [hs0]; simp)
        rw [hs0]
        refine ⟨fun s hs => ?_, fun d hd hne => ?_, ?_⟩
        · rcases List.mem_append.1 hs with hs | hs
          · obtain ⟨d, q1, q2⟩ := i1 s hs
            exact ⟨d, by omega, q2⟩
          · obtain rfl := List.mem_singleton.1 hs
            exact ⟨k, by omega, hd0, hc⟩
        · rcases Nat.lt_or_ge d k with h | h
          · obtain ⟨s, hs, e⟩ := i2 d h hne
            exact ⟨s, List.mem_append_left _ hs, e⟩
          · exact ⟨s0, by simp, by rw [hd0]; omega⟩
        · rw [List.map_append, List.nodup_append]
          refine ⟨i3, by simp, fun a ha b hb e => ?_⟩
          obtain ⟨s, hs, rfl⟩ := List.mem_map.1 ha
          obtain ⟨d, q1, q2, _⟩ := i1 s hs
          simp at hb
          subst hb
          omega
  obtain ⟨s1, s2, s3⟩ := hS M.os.length (Nat.le_refl _)
  obtain ⟨_, _, _, e4, _, _⟩ := sentOut_same X M.os.length
  have hl : (X.sentOut M.os.length).1.os.length = M.os.length := by
    have key : ∀ k, (X.sentOut k).1.os.length = X.os.length := fun k => by
      induction k with
      | zero => rfl
      | succ k ih =>
        show ((X.sentOut k).1.sentTo k).1.os.length = _
        rw [← ih]
        unfold Ag.sentTo
        cases (X.sentOut k).1.os[k]? with
        | none => rfl
        | some o => simp only; split <;> simp
    rw [key, hos]
  rw [ht]
  refine ⟨⟨fun d o ho => ?_, fun d o ho => ?_⟩, s3, fun s hs => ?_, hl, fun s hs d o e ho => ?_⟩
  · have hdl : d < M.os.length := by rw [← hl]; exact (List.getElem?_eq_some_iff.1 ho).1
    obtain ⟨o0, ho0⟩ : ∃ o0, M.os[d]? = some o0 := ⟨_, List.getElem?_eq_getElem hdl⟩
    have hb' : (X.sentOut M.os.length).1.bs = M.bs := e4.trans hbs
    rw [hb']
    by_cases hw : o.way = -1
    · rw [if_pos hw]
      by_cases hc : pcount M.bs d = 0
      · omega
      · obtain ⟨_, o', g2, g3⟩ := hB d o0 ho0 hc
        have ho2 : (X.sentOut M.os.length).1.os[d]? = some o := ho
        rw [sentOut_at X M.os.length d hdl, g2] at ho2
        cases ho2
        exact absurd hw g3
    · rw [if_neg hw]
      exact hn d o0 ho0
  · have hdl : d < M.os.length := by rw [← hl]; exact (List.getElem?_eq_some_iff.1 ho).1
    obtain ⟨o0, ho0⟩ : ∃ o0, M.os[d]? = some o0 := ⟨_, List.getElem?_eq_getElem hdl⟩
    have ho2 : (X.sentOut M.os.length).1.os[d]? = some o := ho
    rw [sentOut_at X M.os.length d hdl] at ho2
    by_cases hc : pcount M.bs d = 0
    · rw [sentTo_rests1 (hA d hc), hos, ho0] at ho2
      cases ho2
      refine ⟨fun h => absurd (hidle d _ ho0) h, fun ⟨s, hs, e⟩ => ?_⟩
      obtain ⟨d', _, q2, q3⟩ := s1 s hs
      have : d' = d := by omega
      subst this
      exact absurd hc q3
    · obtain ⟨_, o', g2, g3⟩ := hB d o0 ho0 hc
      rw [g2] at ho2
      cases ho2
      exact ⟨fun _ => s2 d hdl hc, fun _ => g3⟩
  · obtain ⟨d, q1, q2, _⟩ := s1 s hs
    exact ⟨d, q2, q1⟩
  · have hdl : d < M.os.length := by rw [← hl]; exact (List.getElem?_eq_some_iff.1 ho).1
    obtain ⟨d', q1, q2, q3⟩ := s1 s hs
    obtain rfl : d' = d := by omega
    have ho2 : (X.sentOut M.os.length).1.os[d']? = some o := ho
    rw [sentOut_at X M.os.length d' hdl] at ho2
    have hin := sentOut_in X M.os.length s hs
    obtain ⟨d2, _, hin⟩ := hin
    have e2 := sentTo_d X d2 s hin
    obtain rfl : d2 = d' := by omega
    exact sentTo_try X d2 s hin o ho2

/-- The log of a Compact leads to the same. -/
theorem LInv.compacted {M : Ag} {t : Nat} (h : LInv M) (hi : Inv M t) (hid : ∀ (i : Nat) b, M.bs[i]? = some b → b.id = kid i) (h100 : M.bs.length ≤ 100) : LInv M.compacted := by
  obtain ⟨w1, w2⟩ := way_leads hi hid h100
  refine ⟨?_, h.quota⟩
  show Leads (Ag.new M.c M.D M.ns) 0 (recB 61 M.way) M.core
  by_cases hw : M.way = []
  · rw [hw] at w2
    have e : recB 61 M.way = [] := by unfold recB; rw [if_pos hw]
    rw [e, ← w2]
    exact Leads.refl _ _
  · have hl := hi.compacted_len
    unfold recB at hl
    rw [if_neg hw, List.length_append] at hl
    have := Leads.record (M := Ag.new M.c M.D M.ns) (n := 0) (by' := 61) hw hi.tell (by omega) w1 (by simp [mayStand]) (by rw [w2]; exact (quota_core M).2 h.quota)
    rw [w2] at this
    exact this
/-- How long it is at the most. -/
def mostOf (bs : List Bat) : Nat := (bs.map (fun b => 16 + b.id.length + b.ten.length + b.body.length)).sum
theorem took_len : ∀ bs : List Bat, ((bs.map tookEv).flatMap Ev.bytes).length + 11 * bs.length ≤ mostOf bs
  | [] => by simp [mostOf]
  | b :: bs => by
    have ih := took_len bs
    have h1 : (tookEv b).bytes.length = 5 + (b.ten.length + b.id.length + b.body.length) := by
      unfold Ev.bytes
      rw [if_pos (show (tookEv b).kind = 0 from rfl)]
      simp [tookEv, evBytes, evParts, part]
      omega
    simp only [mostOf, List.map_cons, List.flatMap_cons, List.length_append, List.sum_cons, List.length_cons] at ih ⊢
    omega
theorem small_len {es : List Ev} (h : ∀ e ∈ es, e.kind ≠ 0) : (es.flatMap Ev.bytes).length = 3 * es.length := by
  induction es with
  | nil => rfl
  | cons e es ih =>
    rw [List.flatMap_cons, List.length_append, ih (fun x hx => h x (List.mem_cons_of_mem _ hx))]
    have : e.bytes.length = 3 := by unfold Ev.bytes; rw [if_neg (h e (by simp))]; rfl
    rw [this, List.length_cons]
    omega
theorem ends_kind (bs : List Bat) : ∀ k, ∀ e ∈ endsOf bs k, e.kind ≠ 0
  | 0, e, he => by cases he
  | k + 1, e, he => by
    unfold endsOf at he
    rcases List.mem_append.1 he with h | h
    · exact ends_kind bs k e h
    · cases hb : bs[k]? with
      | none => rw [hb] at h; cases h
      | some b =>
        rw [hb] at h
        simp only [endEv] at h
        split at h
        · obtain rfl := List.mem_singleton.1 h; simp [Ev.of]
        · split at h
          · obtain rfl := List.mem_singleton.1 h; simp [Ev.of]
          · cases h
theorem Inv.short_len {M : Ag} {t : Nat} (h : Inv M t) : (recB 61 M.way).length ≤ 16 + mostOf M.bs := by
  have h1 := took_len M.bs
  have h2 := small_len (ends_kind M.bs M.bs.length)
  have h3 := endsOf_le M.bs M.bs.length
  have h4 := small_len (es := M.dead.map (diedEv M.bs)) (fun e he => by obtain ⟨p, _, rfl⟩ := List.mem_map.1 he; simp [diedEv, Ev.of])
  have h5 := nodup_le M.bs.length M.dead h.ddn (fun p hp => by obtain ⟨b, hb, _⟩ := (h.dead p).1 hp; exact (List.getElem?_eq_some_iff.1 hb).1)
  rw [List.length_map] at h4
  unfold recB
  split
  · simp
  · rw [List.length_append]
    unfold Ag.way
    rw [List.flatMap_append, List.flatMap_append, List.length_append, List.length_append]
    simp only [List.length_cons, List.length_nil]
    omega

/-- An agent that has heard nothing bad. -/
structure GInv (zs : List Int) (M : Ag) : Prop where
  c : M.c = madeC zs
  fr : ∀ r ∈ M.rt, r.fr ≤ M.now
  os : ∀ o ∈ M.os, o.trip = false ∧ o.fl = 0
theorem GInv.crashed {zs : List Int} {M : Ag} (hc : M.c = madeC zs) : GInv zs M.crashed := by
  refine ⟨hc, fun r hr => ?_, fun o ho => ?_⟩
  · rw [(List.mem_replicate.1 (show r ∈ List.replicate M.bs.length (⟨0, M.c.ba⟩ : Ret) from hr)).2]
    exact Int.le_refl _
  · rw [(List.mem_replicate.1 ho).2]
    exact ⟨rfl, rfl⟩
theorem GInv.ticked {zs : List Int} {M : Ag} (h : GInv zs M) (hidle : ∀ (d : Nat) (o : Out), M.os[d]? = some o → o.way = -1) {ms : Int} (h0 : 0 ≤ ms) : GInv zs (M.ticked ms 0).1 := by
  obtain ⟨X, hX⟩ : ∃ X, M.later ms = X := ⟨_, rfl⟩
  have ht : (M.ticked ms 0).1 = (X.sentOut X.os.length).1 := by
    unfold Ag.ticked
    rw [hX, timed_idle (M := X) (fun d o ho => hidle d o (by rw [← hX] at ho; exact ho)) 0]
  have hG : GInv zs X := by
    rw [← hX]
    exact ⟨h.c, fun r hr => by have := h.fr r hr; show r.fr ≤ M.now + ms; omega, h.os⟩
  have key : ∀ k, GInv zs (X.sentOut k).1 := fun k => by
    induction k with
    | zero => exact hG
    | succ k ih =>
      show GInv zs ((X.sentOut k).1.sentTo k).1
      unfold Ag.sentTo
      cases ho : (X.sentOut k).1.os[k]? with
      | none => exact ih
      | some o =>
        simp only
        split
        · exact ih
        · refine ⟨ih.c, ih.fr, fun x hx => ?_⟩
          rcases List.mem_or_eq_of_mem_set (show x ∈ (X.sentOut k).1.os.set k _ from hx) with hx | rfl
          · exact ih.os x hx
          · exact ih.os o (List.mem_of_getElem? ho)
  rw [ht]
  exact key _
theorem GInv.replied {zs : List Int} {M : Ag} {t d : Nat} {o : Out} (h : GInv zs M) (hi : Inv M t) (ht : t ≤ 10000000000000) (ho : M.os[d]? = some o) (hw : o.way ≠ -1) : GInv zs (M.replied d true 0) := by
  obtain ⟨p, b, r, hs, _⟩ := hi.setOk ht (Int.le_refl 0) ho hw
  obtain ⟨k, _, _, f, e⟩ := replied_eq hs true
  have h4 := pickN_lt (zs.getD 4 0) (n := 8) (by omega)
  have h8 := pickN_lt (zs.getD 8 0) (n := 4) (by omega)
  obtain ⟨a1, a2, _⟩ := hi.os d o ho
  have hwi : M.c.wi ≤ 8 := by rw [h.c]; show (1 : Int) + (pickN (zs.getD 4 0) 8 : Int) ≤ 8; omega
  have hth : M.c.th = quarter (pickN (zs.getD 8 0) 4) := by rw [h.c]; rfl
  obtain ⟨g1, g2⟩ := h.os o (List.mem_of_getElem? ho)
  have hbr : ({ o with way := -1 }.heard M.c M.now true).trip = false ∧ ({ o with way := -1 }.heard M.c M.now true).fl = 0 := by
    have hn := none_fail h8 (r := (o.res + 1).toNat) (by omega) (by omega)
    rw [show (((o.res + 1).toNat : Nat) : Int) = o.res + 1 by omega] at hn
    unfold Out.heard Out.counted
    simp only [g1, g2, Bool.false_eq_true, if_false, if_true, hth, hn, Bool.and_false]
    split
    · exact ⟨rfl, rfl⟩
    · exact ⟨rfl, rfl⟩
  rw [e, over_eq hs true]
  refine ⟨h.c, h.fr, fun x hx => ?_⟩
  rcases List.mem_or_eq_of_mem_set (show x ∈ M.os.set d _ from hx) with hx | rfl
  · exact h.os x hx
  · exact hbr

/-- Two agents that differ in their logs alone. -/
theorem sentTo_log (X : Ag) (l : List UInt8) (d : Nat) : ({ X with log := l } : Ag).sentTo d = ({ (X.sentTo d).1 with log := l }, (X.sentTo d).2) := by
  have hz : ({ X with log := l } : Ag).sizes d = X.sizes d := rfl
  have hq : ({ X with log := l } : Ag).quanta = X.quanta := rfl
  unfold Ag.sentTo
  rw [hz, hq]
  show (match X.os[d]? with | none => _ | some o => _) = _
  cases X.os[d]? with
  | none => rfl
  | some o => simp only; split <;> rfl
theorem sentOut_log (X : Ag) (l : List UInt8) : ∀ k, ({ X with log := l } : Ag).sentOut k = ({ (X.sentOut k).1 with log := l }, (X.sentOut k).2)
  | 0 => rfl
  | k + 1 => by
    show (((({ X with log := l } : Ag).sentOut k).1.sentTo k).1, (({ X with log := l } : Ag).sentOut k).2 ++ ((({ X with log := l } : Ag).sentOut k).1.sentTo k).2) = _
    rw [sentOut_log X l k]
    simp only
    rw [sentTo_log]
    rfl
theorem ticked_log {X : Ag} (hidle : ∀ (d : Nat) (o : Out), X.os[d]? = some o → o.way = -1) (ms : Int) (l : List UInt8) : ({ X with log := l } : Ag).ticked ms 0 = ({ (X.ticked ms 0).1 with log := l }, (X.ticked ms 0).2) := by
  unfold Ag.ticked
  rw [timed_idle (M := ({ X with log := l } : Ag).later ms) hidle 0, timed_idle (M := X.later ms) hidle 0]
  exact sentOut_log (X.later ms) l _
theorem replied_log {X : Ag} {t d : Nat} {o : Out} (hi : Inv X t) (ht : t ≤ 10000000000000) (ho : X.os[d]? = some o) (hw : o.way ≠ -1) (l : List UInt8) : ∃ l', ({ X with log := l } : Ag).replied d true 0 = { X.replied d true 0 with log := l' } := by
  obtain ⟨p, b, r, hs, _⟩ := hi.setOk ht (Int.le_refl 0) ho hw
  have hs' : SetOk ({ X with log := l } : Ag) d o p b r 0 := ⟨hs.ho, hs.way, hs.hb, hs.hr, hs.f0, hs.f1, hs.r0, hs.r1, hs.l0, hs.l1, hs.c, hs.p1, hs.p2, hs.dr, hs.n0, hs.n1⟩
  obtain ⟨_, _, _, f, e⟩ := replied_eq hs true
  obtain ⟨_, _, _, f', e'⟩ := replied_eq hs' true
  rw [e', over_eq hs' true, e, over_eq hs true]
  exact ⟨_, rfl⟩
/-- Nobody waits. -/
theorem waits_zero {bs : List Bat} (h : ∀ b ∈ bs, b.st ≠ 1) (x : List UInt8) : waits bs x = 0 := by
  have hp : ∀ d : Int, pend bs d x = [] := fun d => List.eq_nil_iff_forall_not_mem.2 fun i hi => by
    obtain ⟨b, h1, _, _, h4⟩ := mem_pend.1 hi
    exact h b (List.mem_of_getElem? h1) h4
  unfold waits
  simp [hp]
end Go.Proofs.YtojpjaifhjigfaaGreatDoor

/- Again: its calls. -/
namespace Go.Proofs.YtojpjaifhjigfaaGreatDoor
open Go.RowKit Go.Maps

/-- Open of the own log, for whomever. -/
def ROpW (who : Nat) (W : World) (M : Ag) (v e : Value) (wx : World) : Prop := ∃ g' L', v = .pointer (some ⟨g', 0, none⟩) ∧ e = .nilIface ∧ AgentAt wx L' who g' M.crashed ∧ Below W.heap.size W wx ∧ ∀ k, k < W.heap.size → L' k = none
theorem ropenW (A : Nat → Addr) (who : Nat) (W : World) (cm : Nat) (zs : List Int) (N : Nat) (M : Ag) (hN : N = 1 + pickN (zs.getD 9 0) 4) (hS : Sents.Holds W 260 gl 11 A) (ho : ∃ n, n ≤ 4 ∧ OM W cm n (DT (madeT zs N))) (hl : LInv M) (hc : M.c = madeC zs) (hD : M.D = DT (madeT zs N)) (hns : M.ns = kn.take N) (hlen : M.log.length ≤ 100000000000000) :
    Calls Tryz.prog 26 #[(madeC zs).val (some cm), encStr M.log] W fun e w' => ∃ v x, e = .returned (.tuple #[v, x]) ∧ ROpW who W M v x w' := by
  obtain ⟨n, hn, ho⟩ := ho
  have h9 := pickN_lt (zs.getD 9 0) (n := 4) (by omega)
  have hg := made_good zs
  rw [← hN] at hg
  refine (open_log A who (madeC zs) (some cm) _ M.log W hS (Or.inr ⟨cm, n, rfl, ho, by unfold big; omega⟩) hg hlen).mono ?_
  rintro e w' ⟨ns, res, h1, h2, h3, h4, _, h6⟩
  have hns' := names_eq zs (by omega) (by omega) h1 h2
  obtain ⟨M', n', e1, em⟩ := crashed_of hl (hns'.trans hns.symm) (by rw [hc, hD]; exact h3)
  obtain ⟨g', L', rfl, hA, _, hl', _⟩ := h6 M' n' e1
  rw [em] at hA
  exact ⟨_, _, rfl, g', L', rfl, rfl, hA, h4, hl'⟩
/-- Labels of what was, and of what is new. -/
def joinLabs (L L' : Labs) (n : Nat) : Labs := fun k => if k < n then L k else L' k
theorem join_step {p : Lab → Prop} {W w' : World} (L L' : Labs) (hb : Below W.heap.size W w') : Step p L W (joinLabs L L' W.heap.size) w' := Step.of_below' hb (fun k hk => by unfold joinLabs; rw [if_pos hk])
theorem join_new {w' : World} {L L' : Labs} {n who g : Nat} {X : Ag} (hA : AgentAt w' L' who g X) (hl : ∀ k, k < n → L' k = none) : AgentAt w' (joinLabs L L' n) who g X := hA.relab (fun k q h => by
  unfold joinLabs
  rw [if_neg (fun hk => by rw [hl k hk] at h; cases h)]
  exact h)
/-- Tick, its sends labelled by themselves. -/
theorem atick (L : Labs) (who own g t : Nat) (M : Ag) (ms : Int) (w : World) (hA : AgentAt w L who g M) (h : Inv M t) (ht : t + 1 ≤ 4000000000000) (h0 : 0 ≤ ms) (h1 : ms ≤ 60000) :
    Calls Tryz.prog 30 #[.pointer (some ⟨g, 0, none⟩), .int .i64 ms, .int .i64 0] w fun e w' => ∃ va vk L2, e = .returned (.tuple #[.slice va (M.ticked ms 0).2.length vk, .nilIface]) ∧ RowAt w' L2 (some (own, .ag)) 68 4 (.slice va (M.ticked ms 0).2.length vk) (M.ticked ms 0).2.length ((M.ticked ms 0).2.flatMap Sd.cells) ∧ AgentAt w' L2 who g (M.ticked ms 0).1 ∧ Step (ofP who) L w L2 w' := by
  refine (tick_big L who g t M ms 0 w hA h ht h0 h1 (Int.le_refl _)).mono ?_
  rintro e w2 ⟨v, L2, l2, rfl, hRow, hl2, hfr, hAe, hS2⟩
  obtain ⟨va, vk, rfl, _⟩ := hRow.shape
  cases hb : (Value.slice va (M.ticked ms 0).2.length vk).ownBlock with
  | none => exact ⟨va, vk, L2, rfl, ⟨hRow.1, fun k hk => by rw [hb] at hk; cases hk⟩, hAe, hS2⟩
  | some gs =>
    have hLg := hRow.2 gs hb
    have hge : w.heap.size ≤ gs := by
      rcases Nat.lt_or_ge gs w.heap.size with hlt | hge
      · exact absurd ((hS2.lab gs hlt).symm.trans hLg) (hfr gs hlt)
      · exact hge
    refine ⟨va, vk, lay L2 gs (some (own, .ag)), rfl, ⟨hRow.1, fun k hk => ?_⟩, hAe.relab (fun k q hk => ?_), ⟨hS2.os, hS2.tape, hS2.output, hS2.size, fun k hk => ?_, hS2.block⟩⟩
    · rw [hb] at hk
      cases hk
      exact lay_same _ _ _
    · rw [lay_other _ _ (fun e => hl2 ⟨q, by rw [← hLg, ← e]; exact hk⟩)]
      exact hk
    · rw [lay_other _ _ (by omega)]
      exact hS2.lab k hk
/-- Where the run and the two agents lie. -/
structure AAt (w wr : World) (L : Labs) (gr g gx gy cm : Nat) (zs : List Int) (R : Rn) (X Y : Ag) (t : Nat) : Prop where
  run : RunAt wr L gr g cm (madeC zs) R
  ax : AgentAt wr L 3 gx X
  ay : AgentAt wr L 5 gy Y
  lo : ∀ k, k < w.heap.size → L k = none
  b : Below w.heap.size w wr
  ix : Inv X t
  iy : Inv Y t
  tw : Y = { X with log := Y.log }
  g : GInv zs X
  bs : X.bs.length = R.fs.length
  f100 : R.fs.length ≤ 100
theorem AAt.keep {w wr w' : World} {L L' : Labs} {gr g gx gy cm : Nat} {zs : List Int} {R : Rn} {X Y : Ag} {t : Nat} (h : AAt w wr L gr g gx gy cm zs R X Y t) (s : Step (fun _ => False) L wr L' w') : AAt w w' L' gr g gx gy cm zs R X Y t :=
  ⟨h.run.keep s (fun _ h => h), h.ax.keep s (fun _ h => h), h.ay.keep s (fun _ h => h), fun k hk => (s.lab k (Nat.lt_of_lt_of_le hk h.b.size)).trans (h.lo k hk), h.b.trans (s.below h.b.size (fun _ _ h => h)), h.ix, h.iy, h.tw, h.g, h.bs, h.f100⟩
theorem AAt.below {w wr w' : World} {L : Labs} {gr g gx gy cm : Nat} {zs : List Int} {R : Rn} {X Y : Ag} {t : Nat} (h : AAt w wr L gr g gx gy cm zs R X Y t) (hb : Below wr.heap.size wr w') : AAt w w' L gr g gx gy cm zs R X Y t := h.keep (Step.of_below hb)
theorem AAt.same {w wr : World} {L : Labs} {gr g gx gy cm : Nat} {zs : List Int} {R : Rn} {X Y : Ag} {t : Nat} (h : AAt w wr L gr g gx gy cm zs R X Y t) : Y.bs = X.bs ∧ Y.dead = X.dead ∧ Y.os = X.os := by
  have e := h.tw
  exact ⟨by rw [e], by rw [e], by rw [e]⟩
/-- Nobody waits: the map is empty. -/
theorem counts_nil {w : World} {b n : Nat} {D : DataW Unit} (h : OM w b n D) {f : List UInt8 → Nat} (hc : CountsAre D f) (hf : ∀ x, f x = 0) : Maps.size D = 0 := by
  rw [← size_strKeys h]
  cases hk : strKeys D with
  | nil => rfl
  | cons x xs =>
    have hx : x ∈ strKeys D := by rw [hk]; simp
    have h1 := (mem_strKeys h x).1 hx
    have h2 := (hc x (strKeys_le h Tryz.underlying9 x hx)).2 (hf x)
    rw [h1] at h2
    cases h2
/-- Dead of an agent. -/
theorem adead {wr : World} {L : Labs} {who g : Nat} {M : Ag} {t : Nat} (hA : AgentAt wr L who g M) (hi : Inv M t) :
    Calls Tryz.prog 35 #[.pointer (some ⟨g, 0, none⟩)] wr fun e w' => ∃ gd, e = .returned (.slice (some ⟨gd, 0, none⟩) M.ids.length M.ids.length) ∧ (∀ (i : Nat) (x : List UInt8), M.ids[i]? = some x → w'.cell? ⟨gd, i, none⟩ = some (encStr x)) ∧ gd < w'.heap.size ∧ Below wr.heap.size wr w' := by
  refine (dead_any L who g M wr hA hi.dead_lt hi.b120 hi.dead_le).mono ?_
  rintro e w' ⟨gd, rfl, h1, h2, h3⟩
  refine ⟨gd, rfl, fun i x hx => ?_, ?_, h3⟩
  · have hc := h2.cells (show (Value.slice (some ⟨gd, 0, none⟩) M.ids.length M.ids.length).ownBlock = some gd by simp [Value.ownBlock]) i (encStr x) (by simp [hx])
    rw [Addr.add_mid, Nat.zero_add] at hc
    exact hc
  · exact (h2.lt gd (by simp [Value.ownBlock])).2
theorem awaiting {wr : World} {L : Labs} {who g : Nat} {M : Ag} {t : Nat} (hA : AgentAt wr L who g M) (hi : Inv M t) (hz : ∀ b ∈ M.bs, b.st ≠ 1) :
    Calls Tryz.prog 36 #[.pointer (some ⟨g, 0, none⟩)] wr fun e w' => ∃ b, e = .returned (.map (some b)) ∧ (∀ W, Below w'.heap.size w' W → ∀ ty, (Builtin.len_ #[22] ty #[.map (some b)]).run Tryz.prog W = .ok (.int .i64 0) W) ∧ Below wr.heap.size wr w' := by
  refine (waiting_any L who g M wr hA hi.b120).mono ?_
  rintro e w' ⟨b, n, D, rfl, _, h2, _, h4, h5⟩
  refine ⟨b, rfl, fun W hW ty => ?_, h5⟩
  have h2' := om_below h2 hW h2.lt
  have := World.ownsMap.len (R := plainElem Tryz.prog 3) h2' Tryz.underlying22 ty
  rw [counts_nil h2' h4 (waits_zero hz)] at this
  exact this
end Go.Proofs.YtojpjaifhjigfaaGreatDoor

/- Again: the ticks and their replies. -/
namespace Go.Proofs.YtojpjaifhjigfaaGreatDoor
open Go.RowKit Go.Maps

/-- Between the ticks. -/
structure AB (w wr : World) (L : Labs) (gr g gx gy cm : Nat) (zs : List Int) (R : Rn) (X Y : Ag) (t n : Nat) : Prop where
  a : AAt w wr L gr g gx gy cm zs R X Y t
  idle : ∀ (d : Nat) (o : Out), X.os[d]? = some o → o.way = -1
  cnt : ∀ (d : Nat) (o : Out), X.os[d]? = some o → pcount X.bs d ≤ n
/-- Among the replies. -/
structure AIn (w wr : World) (L : Labs) (gr g gx gy cm : Nat) (zs : List Int) (R : Rn) (X Y : Ag) (t n : Nat) (S : List Sd) (va vb : Value) (j : Nat) : Prop where
  a : AAt w wr L gr g gx gy cm zs R X Y t
  liv : Liv (S.drop j) n X
  tr : ∀ s ∈ S.drop j, ∀ (d : Nat) (o : Out), s.d = (d : Int) → X.os[d]? = some o → o.sends = s.try'
  ra : RowAt wr L (some (7, .ag)) 68 4 va S.length (S.flatMap Sd.cells)
  rb : RowAt wr L (some (9, .ag)) 68 4 vb S.length (S.flatMap Sd.cells)
theorem AAt.osl {w wr : World} {L : Labs} {gr g gx gy cm : Nat} {zs : List Int} {R : Rn} {X Y : Ag} {t dn : Nat} (h : AAt w wr L gr g gx gy cm zs R X Y t) (hd : (madeC zs).d = dn) : X.os.length = dn := by
  have h1 := h.ix.ol
  rw [h.g.c, hd] at h1
  omega
/-- A tick of both. -/
structure TwoTicks (X Y : Ag) (n dn : Nat) (S : List Sd) : Prop where
  y : (Y.ticked 1 0).2 = S
  tw : (Y.ticked 1 0).1 = { (X.ticked 1 0).1 with log := (Y.ticked 1 0).1.log }
  go : TickGo X n (X.ticked 1 0)
  few : S.length ≤ 4
  all : ∀ s ∈ S, ∃ d : Nat, s.d = (d : Int) ∧ d < dn
theorem AB.two {w wr : World} {L : Labs} {gr g gx gy cm : Nat} {zs : List Int} {R : Rn} {X Y : Ag} {t n dn : Nat} (h : AB w wr L gr g gx gy cm zs R X Y t (n + 1)) (hd : (madeC zs).d = dn) (hd4 : dn ≤ 4) (ht : t + 10 ≤ 4000000000000) : TwoTicks X Y n dn (X.ticked 1 0).2 := by
  have e := ticked_log h.idle 1 Y.log
  rw [← h.a.tw] at e
  have hgo := h.a.ix.tickGo (n := n) (ms := 1) (fun r hr => by have := h.a.g.fr r hr; omega) (fun o ho htr => by rw [(h.a.g.os o ho).1] at htr; cases htr) h.idle (by omega) h.cnt
  obtain ⟨_, _, hfew, _⟩ := ticked_by h.a.ix (ms := 1) (draw := 0) (by omega) (by omega) (by omega) (Int.le_refl _)
  have hol := h.a.osl hd
  refine ⟨by rw [e], by rw [e], hgo, by omega, fun s hs => ?_⟩
  obtain ⟨d, e1, e2⟩ := hgo.all s hs
  exact ⟨d, e1, by omega⟩
theorem AB.ticked {w wr w1 w2 : World} {L L1 L2 : Labs} {gr g gx gy cm : Nat} {zs : List Int} {R : Rn} {X Y : Ag} {t n dn : Nat} {va vb : Value} (h : AB w wr L gr g gx gy cm zs R X Y t (n + 1)) (ht : t + 10 ≤ 4000000000000) (k : TwoTicks X Y n dn (X.ticked 1 0).2)
    (q1 : AgentAt w1 L1 3 gx (X.ticked 1 0).1) (r1 : RowAt w1 L1 (some (7, .ag)) 68 4 va (X.ticked 1 0).2.length ((X.ticked 1 0).2.flatMap Sd.cells)) (s1 : Step (ofP 3) L wr L1 w1) (q2 : AgentAt w2 L2 5 gy (Y.ticked 1 0).1) (r2 : RowAt w2 L2 (some (9, .ag)) 68 4 vb (X.ticked 1 0).2.length ((X.ticked 1 0).2.flatMap Sd.cells)) (s2 : Step (ofP 5) L1 w1 L2 w2) :
    AIn w w2 L2 gr g gx gy cm zs R (X.ticked 1 0).1 (Y.ticked 1 0).1 (t + 1) n (X.ticked 1 0).2 va vb 0 := by
  have n3 : ∀ {who : Nat}, who ≠ 3 → ∀ q, ¬ ofP 3 (some (who, q)) := fun hne q => not_ofP (fun e => hne e.symm) q
  have n5 : ∀ {who : Nat}, who ≠ 5 → ∀ q, ¬ ofP 5 (some (who, q)) := fun hne q => not_ofP (fun e => hne e.symm) q
  have hsz : wr.heap.size ≤ w1.heap.size := s1.size
  have hlo1 : ∀ k, k < w.heap.size → L1 k = none := fun k hk => (s1.lab k (Nat.lt_of_lt_of_le hk h.a.b.size)).trans (h.a.lo k hk)
  have hb1 : Below w.heap.size w w1 := h.a.b.trans (s1.below h.a.b.size (fun k hk => by rw [h.a.lo k hk]; exact fun ⟨q, e⟩ => by cases e))
  have hbl : (X.ticked 1 0).1.bs = X.bs := by
    have hid : (X.later 1).timed 0 = X.later 1 := timed_idle (M := X.later 1) h.idle 0
    show (((X.later 1).timed 0).sentOut ((X.later 1).timed 0).os.length).1.bs = X.bs
    rw [hid]
    exact (sentOut_same (X.later 1) _).2.2.2.1
  refine ⟨⟨(h.a.run.keep s1 (n3 (by decide))).keep s2 (n5 (by decide)), q1.keep s2 (n5 (by decide)), q2, fun k hk => (s2.lab k (Nat.lt_of_lt_of_le hk hb1.size)).trans (hlo1 k hk), hb1.trans (s2.below hb1.size (fun k hk => by rw [hlo1 k hk]; exact fun ⟨q, e⟩ => by cases e)), h.a.ix.ticked (by omega) (by omega) (by omega) (Int.le_refl _), h.a.iy.ticked (by omega) (by omega) (by omega) (Int.le_refl _), k.tw, h.a.g.ticked h.idle (by omega), by rw [hbl]; exact h.a.bs, h.a.f100⟩, by rw [List.drop_zero]; exact k.go.liv, by rw [List.drop_zero]; exact k.go.tr, r1.keep s2 (n5 (by decide) _), r2⟩
/-- What a reply meets. -/
theorem AIn.meets {w wr : World} {L : Labs} {gr g gx gy cm : Nat} {zs : List Int} {R : Rn} {X Y : Ag} {t n : Nat} {S : List Sd} {va vb : Value} {j dn : Nat} (h : AIn w wr L gr g gx gy cm zs R X Y t n S va vb j) (hd : (madeC zs).d = dn) (hall : ∀ s ∈ S, ∃ d : Nat, s.d = (d : Int) ∧ d < dn) {s : Sd} (hs : S[j]? = some s) : ∃ (d : Nat) (o : Out), s.d = (d : Int) ∧ X.os[d]? = some o ∧ Y.os[d]? = some o ∧ o.way ≠ -1 ∧ o.sends = s.try' := by
  obtain ⟨d, e, hdl⟩ := hall s (List.mem_of_getElem? hs)
  have hdrop := drop_at hs
  obtain ⟨o, ho⟩ : ∃ o, X.os[d]? = some o := ⟨_, List.getElem?_eq_getElem (by rw [h.a.osl hd]; exact hdl)⟩
  exact ⟨d, o, e, ho, by rw [h.a.same.2.2]; exact ho, (h.liv.way d o ho).2 ⟨s, by rw [hdrop]; simp, e⟩, h.tr s (by rw [hdrop]; simp) d o e ho⟩
theorem replied_bsl {X : Ag} {t d : Nat} {o : Out} (hi : Inv X t) (ht : t ≤ 10000000000000) (ho : X.os[d]? = some o) (hw : o.way ≠ -1) : (X.replied d true 0).bs.length = X.bs.length := by
  obtain ⟨p, b, r, hs, _⟩ := hi.setOk ht (Int.le_refl 0) ho hw
  obtain ⟨_, _, _, f, e⟩ := replied_eq hs true
  rw [e, over_eq hs true]
  simp
theorem AIn.next {w wr w1 w2 : World} {L L1 L2 : Labs} {gr g gx gy cm : Nat} {zs : List Int} {R : Rn} {X Y : Ag} {t n : Nat} {S : List Sd} {va vb : Value} {j dn d : Nat} {o : Out} {s : Sd} (h : AIn w wr L gr g gx gy cm zs R X Y t n S va vb j) (hd : (madeC zs).d = dn) (ht : t + 10 ≤ 4000000000000) (hnod : (S.map Sd.d).Nodup) (hs : S[j]? = some s) (e : s.d = (d : Int)) (ho : X.os[d]? = some o) (hw : o.way ≠ -1)
    (q1 : AgentAt w1 L1 3 gx (X.replied d true 0)) (s1 : Step (ofP 3) L wr L1 w1) (q2 : AgentAt w2 L2 5 gy (Y.replied d true 0)) (s2 : Step (ofP 5) L1 w1 L2 w2) : AIn w w2 L2 gr g gx gy cm zs R (X.replied d true 0) (Y.replied d true 0) (t + 1) n S va vb (j + 1) := by
  have hdrop := drop_at hs
  have n3 : ∀ {who : Nat}, who ≠ 3 → ∀ q, ¬ ofP 3 (some (who, q)) := fun hne q => not_ofP (fun e => hne e.symm) q
  have n5 : ∀ {who : Nat}, who ≠ 5 → ∀ q, ¬ ofP 5 (some (who, q)) := fun hne q => not_ofP (fun e => hne e.symm) q
  have hlo1 : ∀ k, k < w.heap.size → L1 k = none := fun k hk => (s1.lab k (Nat.lt_of_lt_of_le hk h.a.b.size)).trans (h.a.lo k hk)
  have hb1 : Below w.heap.size w w1 := h.a.b.trans (s1.below h.a.b.size (fun k hk => by rw [h.a.lo k hk]; exact fun ⟨q, e⟩ => by cases e))
  have hYo : Y.os[d]? = some o := by rw [h.a.same.2.2]; exact ho
  obtain ⟨l', el⟩ := replied_log h.a.ix (by omega) ho hw Y.log
  rw [← h.a.tw] at el
  have hrt := h.a.ix.repliedTo (by omega) ho hw
  have hliv := h.liv
  have htr := h.tr
  rw [hdrop] at hliv htr
  have hn2 : ∀ s' ∈ S.drop (j + 1), s'.d ≠ s.d := fun s' hs' e2 => by
    have hn2 : ((S.drop j).map Sd.d).Nodup := by rw [List.map_drop]; exact hnod.sublist (List.drop_sublist _ _)
    rw [hdrop, List.map_cons, List.nodup_cons] at hn2
    exact hn2.1 (List.mem_map.2 ⟨s', hs', e2⟩)
  refine ⟨⟨(h.a.run.keep s1 (n3 (by decide))).keep s2 (n5 (by decide)), q1.keep s2 (n5 (by decide)), q2, fun k hk => (s2.lab k (Nat.lt_of_lt_of_le hk hb1.size)).trans (hlo1 k hk), hb1.trans (s2.below hb1.size (fun k hk => by rw [hlo1 k hk]; exact fun ⟨q, e⟩ => by cases e)), h.a.ix.replied (by omega) (Int.le_refl _) ho hw true, h.a.iy.replied (by omega) (Int.le_refl _) hYo hw true, by rw [el], h.a.g.replied h.a.ix (by omega) ho hw, by rw [replied_bsl h.a.ix (by omega) ho hw]; exact h.a.bs, h.a.f100⟩, hliv.next e hn2 hrt (by rw [h.a.osl hd, ← h.a.osl hd]; exact (List.getElem?_eq_some_iff.1 ho).1), fun s' hs' d' o' e' ho' => ?_, (h.ra.keep s1 (n3 (by decide) _)).keep s2 (n5 (by decide) _), (h.rb.keep s1 (n3 (by decide) _)).keep s2 (n5 (by decide) _)⟩
  have hne : d' ≠ d := fun e2 => hn2 s' hs' (by rw [e', e, e2])
  rw [hrt.os d' hne] at ho'
  exact htr s' (List.mem_cons_of_mem _ hs') d' o' e' ho'
theorem AIn.done {w wr : World} {L : Labs} {gr g gx gy cm : Nat} {zs : List Int} {R : Rn} {X Y : Ag} {t n : Nat} {S : List Sd} {va vb : Value} (h : AIn w wr L gr g gx gy cm zs R X Y t n S va vb S.length) : AB w wr L gr g gx gy cm zs R X Y t n := by
  have hl := h.liv
  rw [List.drop_length] at hl
  exact ⟨h.a, hl.idle.1, hl.idle.2⟩
theorem AB.over {w wr : World} {L : Labs} {gr g gx gy cm : Nat} {zs : List Int} {R : Rn} {X Y : Ag} {t dn : Nat} (h : AB w wr L gr g gx gy cm zs R X Y t 0) (hd : (madeC zs).d = dn) : ∀ b ∈ X.bs, b.st ≠ 1 := fun b hb hst => by
  obtain ⟨q1, q2, _⟩ := h.a.ix.each b hb
  rw [h.a.g.c, hd] at q2
  obtain ⟨o, ho⟩ : ∃ o, X.os[b.dst.toNat]? = some o := ⟨_, List.getElem?_eq_getElem (by rw [h.a.osl hd]; omega)⟩
  have := h.cnt _ o ho
  exact pcount_none (by omega : pcount X.bs b.dst.toNat = 0) b hb hst (by omega)
theorem AAt.ids_eq {w wr : World} {L : Labs} {gr g gx gy cm : Nat} {zs : List Int} {R : Rn} {X Y : Ag} {t : Nat} (h : AAt w wr L gr g gx gy cm zs R X Y t) : Y.ids = X.ids := by
  have e := h.tw
  rw [e]
  rfl
end Go.Proofs.YtojpjaifhjigfaaGreatDoor
