/- Steps of the proof (several texts in one): Brk, RunPure, RunPure2, KeepBody, FairBal, FairSubs. -/
import Derived.Test.YtojpjaifhjigfabGreatDoorMTwo14
import Derived.Test.YtojpjaifhjigfabGreatDoorMTwo20
import Derived.Test.YtojpjaifhjigfabGreatDoorMTwo18
import Derived.Test.YtojpjaifhjigfabGreatDoorMTwo03
import Derived.Test.YtojpjaifhjigfabGreatDoorMTwo19

/- One destination, one tenant, one try each: what Tick and Reply make of it. -/
namespace Go.Proofs.YtojpjaifhjigfabGreatDoor
open Go.RowKit Go.Maps

/-- Who waits. -/
def pendN (bs : List Bat) : Nat := bs.countP fun b => decide (b.st = 1)

/-- All batches are tenant a's and go to destination 0; nothing is under way; m wait, and may go. -/
structure Brk (M : Ag) (m : Nat) (o : Out) : Prop where
  ho : M.os[0]? = some o
  wy : ∀ (d : Nat) o', M.os[d]? = some o' → o'.way = -1
  bt : ∀ b ∈ M.bs, b.dst = 0 ∧ b.ten = [97]
  cn : pendN M.bs = m
  rt : ∀ r ∈ M.rt, r.fr ≤ 0
  at1 : M.c.at' = 1

theorem Brk.later {M : Ag} {m : Nat} {o : Out} (h : Brk M m o) (ms : Int) : Brk (M.later ms) m o := ⟨h.ho, h.wy, h.bt, h.cn, h.rt, h.at1⟩

theorem gaveUp_idle {M : Ag} (h : ∀ (d : Nat) o', M.os[d]? = some o' → o'.way = -1) (draw : Int) : ∀ k, M.gaveUp draw k = (M, [])
  | 0 => rfl
  | k + 1 => by
    unfold Ag.gaveUp
    rw [gaveUp_idle h draw k]
    cases ho : M.os[k]? with
    | none => rfl
    | some o =>
      simp only
      rw [if_neg (fun hh => hh.1 (h k o ho))]
theorem timed_idle {M : Ag} (h : ∀ (d : Nat) o', M.os[d]? = some o' → o'.way = -1) (draw : Int) : M.timed draw = M := by
  unfold Ag.timed
  rw [gaveUp_idle h draw]
  unfold Ag.recorded recB
  simp

/-- To another destination nothing goes. -/
theorem sentTo_none {M : Ag} (hb : ∀ b ∈ M.bs, b.dst = 0) {d : Nat} (hd : d ≠ 0) : M.sentTo d = (M, []) := by
  cases ho : M.os[d]? with
  | none => unfold Ag.sentTo; rw [ho]
  | some o =>
    refine sentTo_not ho (Or.inr (Or.inr (List.all_eq_true.2 fun s hs => ?_)))
    obtain ⟨x, _, rfl⟩ := List.mem_map.1 hs
    have hp : pend M.bs d x = [] := List.eq_nil_iff_forall_not_mem.2 fun i hi => by
      obtain ⟨b, h1, h2, _⟩ := mem_pend.1 hi
      have := hb b (List.mem_of_getElem? h1)
      omega
    unfold Ag.size
    rw [hp]
    rfl
theorem sentOut_first {M : Ag} (hb : ∀ b ∈ M.bs, b.dst = 0) : ∀ k, M.sentOut (k + 1) = M.sentTo 0
  | 0 => by simp [Ag.sentOut]
  | k + 1 => by
    have ih := sentOut_first hb k
    have hu := (sentTo_up M 0).same
    have h1 : ((M.sentTo 0).1).sentTo (k + 1) = ((M.sentTo 0).1, []) := sentTo_none (by rw [hu.2.2.2.1]; exact hb) (by omega)
    show ((((M.sentOut (k + 1)).1).sentTo (k + 1)).1, (M.sentOut (k + 1)).2 ++ (((M.sentOut (k + 1)).1).sentTo (k + 1)).2) = _
    rw [ih, h1, List.append_nil]

theorem Brk.ticked {M : Ag} {m : Nat} {o : Out} (h : Brk M m o) (ms : Int) : M.ticked ms 0 = (M.later ms).sentTo 0 := by
  have h' := h.later ms
  unfold Ag.ticked
  rw [timed_idle h'.wy]
  have hl : 0 < (M.later ms).os.length := (List.getElem?_eq_some_iff.1 h'.ho).1
  obtain ⟨k, hk⟩ : ∃ k, (M.later ms).os.length = k + 1 := ⟨_, (Nat.succ_pred_eq_of_pos hl).symm⟩
  rw [hk]
  exact sentOut_first (fun b hb => (h'.bt b hb).1) k

/-- Who seems to be down is left alone. -/
theorem Brk.blocked {M : Ag} {m : Nat} {o : Out} (h : Brk M m o) (ms : Int) (hb : o.trip = true ∧ M.now + ms < o.unt) : M.ticked ms 0 = (M.later ms, []) := by
  rw [h.ticked ms]
  exact sentTo_not h.ho (Or.inr (Or.inl hb))

/-- One that waits makes its tenant's queue go. -/
theorem Brk.sizes {M : Ag} {m t : Nat} {o : Out} (h : Brk M m o) (hi : Inv M t) (hm : 0 < m) : (M.sizes 0).all (· == 0) = false := by
  have hm' : 0 < M.bs.countP fun b => decide (b.st = 1) := by have := h.cn; unfold pendN at this; omega
  obtain ⟨b, hb, hst⟩ := List.countP_pos_iff.1 hm'
  have hst' : b.st = 1 := by simpa using hst
  obtain ⟨h1, h2⟩ := h.bt b hb
  obtain ⟨i, hi', rfl⟩ := List.getElem_of_mem hb
  have hin : i ∈ pend M.bs (0 : Nat) [97] := mem_pend.2 ⟨_, List.getElem?_eq_getElem hi', h1, h2, hst'⟩
  have hten : ([97] : List UInt8) ∈ M.ns := by rw [← h2]; exact (hi.each _ hb).2.2.1
  refine List.all_eq_false.2 ⟨M.size 0 [97], List.mem_map.2 ⟨_, hten, rfl⟩, ?_⟩
  cases hp : pend M.bs (0 : Nat) [97] with
  | nil => rw [hp] at hin; cases hin
  | cons p ps =>
    obtain ⟨b', e1, e2, e3, e4⟩ := mem_pend.1 (show p ∈ pend M.bs (0 : Nat) [97] by rw [hp]; simp)
    obtain ⟨r, hr⟩ : ∃ r, M.rt[p]? = some r := ⟨_, List.getElem?_eq_getElem (by rw [hi.rl]; exact (List.getElem?_eq_some_iff.1 e1).1)⟩
    have hf := h.rt r (List.mem_of_getElem? hr)
    have := hi.nw0
    unfold Ag.size
    rw [hp]
    simp only [e1, hr, Option.map_some, Option.getD_some]
    rw [if_neg (by omega)]
    simp

/-- What is sent, and what stands then. -/
structure Gone (M M' : Ag) (m : Nat) (o o' : Out) (ms : Int) (s : Sd) : Prop where
  tr : s.try' = o.sends + 1
  ho : M'.os[0]? = some o'
  wy : o'.way ≠ -1
  sn : o'.sends = o.sends + 1
  br : o'.res = o.res ∧ o'.fl = o.fl ∧ o'.trip = o.trip ∧ o'.unt = o.unt
  c : M'.c = M.c
  nw : M'.now = M.now + ms
  wo : ∀ (d : Nat) o1, d ≠ 0 → M'.os[d]? = some o1 → o1.way = -1
  bs : M'.bs = M.bs
  rt : M'.rt = M.rt

theorem Brk.goes {M : Ag} {m t : Nat} {o : Out} (h : Brk M m o) (hi : Inv M t) {ms : Int} (h0 : 0 ≤ ms) (h1 : ms ≤ 60000) (hm : 0 < m) (hb : ¬ (o.trip = true ∧ M.now + ms < o.unt)) :
    ∃ M' s o', M.ticked ms 0 = (M', [s]) ∧ Gone M M' m o o' ms s := by
  have h' := h.later ms
  have hi' := hi.later h0 h1
  have hw := h.wy 0 o h.ho
  have hl := (List.getElem?_eq_some_iff.1 h'.ho).1
  refine ⟨_, _, { o.picked ((M.later ms).sizes 0) (M.later ms).quanta with sends := o.sends + 1, way := (M.later ms).named 0 o, began := (M.later ms).now }, (h.ticked ms).trans (sentTo_eq h'.ho hw hb (h'.sizes hi' hm)), rfl, ?_, ?_, rfl, ⟨rfl, rfl, rfl, rfl⟩, rfl, rfl, fun d o1 hd ho1 => ?_, rfl, rfl⟩
  · show ((M.later ms).os.set 0 _)[0]? = some _
    rw [List.getElem?_set_self hl]
  · show ((((M.later ms).named 0 o : Nat) : Int)) ≠ -1
    omega
  · have ho2 : ((M.later ms).os.set 0 _)[d]? = some o1 := ho1
    rw [List.getElem?_set_ne (fun e => hd e.symm)] at ho2
    exact h'.wy d o1 ho2

theorem pendN_set {bs : List Bat} {p : Nat} {b b2 : Bat} (hb : bs[p]? = some b) (h1 : b.st = 1) (h2 : b2.st ≠ 1) : pendN (bs.set p b2) = pendN bs - 1 := by
  obtain ⟨hl, he⟩ := List.getElem?_eq_some_iff.1 hb
  unfold pendN
  rw [List.countP_set hl]
  rw [he]
  simp [h1, h2]

theorem Gone.replied {M M' : Ag} {m t : Nat} {o o' : Out} {ms : Int} {s : Sd} (g : Gone M M' m o o' ms s) (h : Brk M m o) (hi : Inv M' t) (ht : t + 1 ≤ 10000000000000) (good : Bool) :
    Brk (M'.replied 0 good 0) (m - 1) ({ o' with way := -1 }.heard M.c (M.now + ms) good) ∧ (M'.replied 0 good 0).now = M.now + ms ∧ (M'.replied 0 good 0).c = M.c := by
  obtain ⟨p, b, r, hs, hst, hdst, hfl⟩ := hi.setOk (by omega) (Int.le_refl 0) g.ho g.wy
  obtain ⟨k, hk, hk0, f, e⟩ := replied_eq hs good
  have hf0 := hs.f0
  have hdie : M.c.at' ≤ b.fl + 1 := by have := h.at1; omega
  have hl := (List.getElem?_eq_some_iff.1 g.ho).1
  rw [e, over_eq hs good]
  simp only [g.c, g.nw, if_pos hdie]
  refine ⟨⟨?_, fun d o1 ho1 => ?_, fun x hx => ?_, ?_, ?_, ?_⟩, by first | rfl | trivial, by first | rfl | trivial⟩
  · show (M'.os.set 0 _)[0]? = some _
    rw [List.getElem?_set_self hl]
  · have ho2 : (M'.os.set 0 _)[d]? = some o1 := ho1
    by_cases e0 : d = 0
    · subst e0
      rw [List.getElem?_set_self hl] at ho2
      cases ho2
      obtain ⟨a1, a2, a3, a4, _⟩ := hi.os 0 o' g.ho
      rw [g.c] at a2
      exact (heard_ok { o' with way := -1 } M.c (M.now + ms) good a1 a2 a3 a4).2.2.2.2.1
    · rw [List.getElem?_set_ne (fun e => e0 e.symm)] at ho2
      exact g.wo d o1 e0 ho2
  · have hx2 : x ∈ M'.bs.set p _ := hx
    rcases List.mem_or_eq_of_mem_set hx2 with h1 | rfl
    · rw [g.bs] at h1; exact h.bt x h1
    · have hb' := hs.hb
      rw [g.bs] at hb'
      have := h.bt b (List.mem_of_getElem? hb')
      cases good <;> exact this
  · show pendN (M'.bs.set p _) = m - 1
    rw [pendN_set hs.hb hst (by cases good <;> simp [Bat.ended]), g.bs, h.cn]
  · intro x hx
    have hx2 : x ∈ M'.rt := by cases good <;> exact hx
    rw [g.rt] at hx2
    exact h.rt x hx2
  · exact h.at1
end Go.Proofs.YtojpjaifhjigfabGreatDoor

/- conduitkeep's run against the agent, as plain data. -/
namespace Go.Proofs.YtojpjaifhjigfabGreatDoor
open Go.RowKit Go.Maps

/-- The ways, the pauses and the time of a run are the agent's. -/
structure RW (R : Rn) (M : Ag) : Prop where
  len : R.fs.length = M.bs.length
  wl : R.ws.length = M.os.length
  ws : ∀ (d : Nat) (y : Wy) (o : Out), R.ws[d]? = some y → M.os[d]? = some o → y.f = o.way ∧ y.tr = o.sends ∧ (o.way ≠ -1 → y.bg = o.began)
  af : ∀ (i : Nat) (f : Fa) (r : Ret) (b : Bat), R.fs[i]? = some f → M.rt[i]? = some r → M.bs[i]? = some b → b.st = 1 → f.af ≤ r.fr
  time : R.time = M.now
  same : ∀ (i : Nat) (f : Fa) (b : Bat), R.fs[i]? = some f → M.bs[i]? = some b → f.b.dst = b.dst ∧ f.b.ten = b.ten ∧ f.b.id = b.id ∧ f.b.body = b.body

theorem heard_same (o : Out) (c : Cfg) (now : Int) (good : Bool) : (({ o with way := -1 } : Out).heard c now good).way = -1 ∧ (({ o with way := -1 } : Out).heard c now good).sends = o.sends := by
  unfold Out.heard Out.counted
  simp only
  repeat' split
  all_goals exact ⟨rfl, rfl⟩
theorem pause_ok {M : Ag} {d : Nat} {o : Out} {p : Nat} {b : Bat} {r : Ret} {draw : Int} (hs : SetOk M d o p b r draw) : M.c.ba ≤ nextPause M.c r.pa draw ∧ nextPause M.c r.pa draw ≤ M.c.ca := by
  have h1 := hs.c.ba
  have h2 := hs.p1
  have := Int.emod_nonneg draw (b := 3 * r.pa - M.c.ba + 1) (by omega)
  unfold nextPause
  omega
theorem RW.over {R : Rn} {M : Ag} {d : Nat} {o : Out} {p : Nat} {b : Bat} {r : Ret} {draw : Int} (h : RW R M) (hs : SetOk M d o p b r draw) (good : Bool) : RW (R.over M.c.ba d good) (M.over d good draw) := by
  have hdl : d < R.ws.length := by rw [h.wl]; exact (List.getElem?_eq_some_iff.1 hs.ho).1
  have hdM := (List.getElem?_eq_some_iff.1 hs.ho).1
  have hpM := (List.getElem?_eq_some_iff.1 hs.hb).1
  obtain ⟨y, hy⟩ : ∃ y, R.ws[d]? = some y := ⟨_, List.getElem?_eq_getElem hdl⟩
  obtain ⟨y1, y2, y3⟩ := h.ws d y o hy hs.ho
  have hyp : y.f.toNat = p := by rw [y1, hs.way]; rfl
  have hR : R.over M.c.ba d good = { R with ws := R.ws.set d { y with f := -1 }, fs := if good then R.fs else R.fs.modify p (fun f => { f with af := R.time + M.c.ba }) } := by
    unfold Rn.over
    rw [hy]
    simp only [hyp]
  obtain ⟨q1, q2⟩ := pause_ok hs
  have hheard : (({ o with way := -1 } : Out).heard M.c M.now good).way = -1 ∧ (({ o with way := -1 } : Out).heard M.c M.now good).sends = o.sends := heard_same o M.c M.now good
  rw [hR, over_eq hs good]
  have hfl : (if good then R.fs else R.fs.modify p (fun f => { f with af := R.time + M.c.ba })).length = R.fs.length := by cases good <;> simp
  refine ⟨by simp only [hfl, List.length_set]; exact h.len, by simp only [List.length_set]; exact h.wl, fun d' y' o' hy' ho' => ?_, fun i f' r' b' hf' hr' hb' hst' => ?_, h.time, fun i f' b' hf' hb' => ?_⟩
  · simp only at hy' ho'
    by_cases e : d = d'
    · subst e
      rw [List.getElem?_set_self hdl] at hy'
      rw [List.getElem?_set_self hdM] at ho'
      cases hy'
      cases ho'
      exact ⟨hheard.1.symm, y2.trans hheard.2.symm, fun hh => absurd hheard.1 hh⟩
    · rw [List.getElem?_set_ne e] at hy' ho'
      exact h.ws d' y' o' hy' ho'
  · simp only at hf' hr' hb'
    by_cases e : p = i
    · subst e
      rw [List.getElem?_set_self hpM] at hb'
      cases hb'
      cases good
      · simp only [Bool.false_eq_true, if_false] at hf' hr' hst'
        by_cases hd : M.c.at' ≤ b.fl + 1
        · simp [hd, Bat.ended] at hst'
        · rw [if_neg hd] at hr'
          have hrl : p < M.rt.length := (List.getElem?_eq_some_iff.1 hs.hr).1
          rw [List.getElem?_set_self hrl] at hr'
          cases hr'
          rw [List.getElem?_modify] at hf'
          simp only [if_true, Option.map_eq_map] at hf'
          obtain ⟨f0, _, rfl⟩ := Option.map_eq_some_iff.1 hf'
          show R.time + M.c.ba ≤ M.now + nextPause M.c r.pa draw
          rw [h.time]
          omega
      · simp [Bat.ended] at hst'
    · rw [List.getElem?_set_ne e] at hb'
      have hf0 : R.fs[i]? = some f' := by
        cases good
        · simp only [Bool.false_eq_true, if_false] at hf'
          rw [List.getElem?_modify] at hf'
          simp only [if_neg e, Option.map_eq_map] at hf'
          simpa using hf'
        · exact hf'
      have hr0 : M.rt[i]? = some r' := by
        cases good
        · simp only [Bool.false_eq_true, if_false] at hr'
          split at hr'
          · exact hr'
          · rw [List.getElem?_set_ne e] at hr'; exact hr'
        · exact hr'
      exact h.af i f' r' b' hf0 hr0 hb' hst'
  · simp only at hf' hb'
    have key : ∀ (f0 : Fa), R.fs[i]? = some f0 → f'.b = f0.b → f'.b.dst = b'.dst ∧ f'.b.ten = b'.ten ∧ f'.b.id = b'.id ∧ f'.b.body = b'.body := fun f0 hf0 e0 => by
      rw [e0]
      by_cases e : p = i
      · subst e
        rw [List.getElem?_set_self hpM] at hb'
        have := h.same p f0 b hf0 hs.hb
        cases hb'
        cases good
        · simp only [Bool.false_eq_true, if_false]
          split <;> exact this
        · exact this
      · rw [List.getElem?_set_ne e] at hb'
        exact h.same i f0 b' hf0 hb'
    cases good
    · simp only [Bool.false_eq_true, if_false] at hf'
      rw [List.getElem?_modify] at hf'
      simp only [Option.map_eq_map] at hf'
      obtain ⟨f0, h0, rfl⟩ := Option.map_eq_some_iff.1 hf'
      refine key f0 h0 ?_
      split <;> rfl
    · exact key f' hf' rfl

/-- Sends, one behind the other. -/
inductive SentBy : Ag → List Sd → Ag → Prop
  | nil (M : Ag) : SentBy M [] M
  | cons (M M' : Ag) (s : Sd) (l : List Sd) (d p : Nat) (o o' : Out) (b : Bat) (r : Ret) : s.d = d → M.os[d]? = some o → o.way = -1 → s.try' = o.sends + 1 → M.bs[p]? = some b → b.st = 1 → b.dst = d → s.id = b.id → s.body = b.body → M.rt[p]? = some r → r.fr ≤ M.now → o'.way = p → o'.sends = o.sends + 1 → o'.began = M.now → SentBy { M with os := M.os.set d o' } l M' → SentBy M (s :: l) M'
theorem SentBy.append {M M1 M2 : Ag} {l1 l2 : List Sd} (h : SentBy M l1 M1) (k : SentBy M1 l2 M2) : SentBy M (l1 ++ l2) M2 := by
  induction h with
  | nil M => exact k
  | cons M M' s l d p o o' b r h1 h2 h3 h4 h5 h6 h7 h8 h9 h10 h11 h12 h13 h14 _ ih => exact SentBy.cons M M2 s (l ++ l2) d p o o' b r h1 h2 h3 h4 h5 h6 h7 h8 h9 h10 h11 h12 h13 h14 (ih k)
theorem SentBy.same {M M' : Ag} {l : List Sd} (h : SentBy M l M') : M'.c = M.c ∧ M'.D = M.D ∧ M'.ns = M.ns ∧ M'.bs = M.bs ∧ M'.rt = M.rt ∧ M'.now = M.now ∧ M'.dead = M.dead ∧ M'.log = M.log ∧ M'.os.length = M.os.length := by
  induction h with
  | nil M => exact ⟨rfl, rfl, rfl, rfl, rfl, rfl, rfl, rfl, rfl⟩
  | cons M M' s l d p o o' b r h1 h2 h3 h4 h5 h6 h7 h8 h9 h10 h11 h12 h13 h14 _ ih =>
    obtain ⟨i1, i2, i3, i4, i5, i6, i7, i8, i9⟩ := ih
    exact ⟨i1, i2, i3, i4, i5, i6, i7, i8, i9.trans (by simp)⟩
theorem picked_fr {M : Ag} {d : Nat} {o : Out} (h : SendOk M) (hr : Rot M.ns.length (o.turn, o.cr)) (hall : (M.sizes d).all (· == 0) = false) :
    ∃ x p ps, M.ns[(o.picked (M.sizes d) M.quanta).turn]? = some x ∧ pend M.bs d x = p :: ps ∧ M.named d o = p ∧ ∀ r, M.rt[p]? = some r → r.fr ≤ M.now := by
  have hlen : o.cr.length = M.ns.length := hr.len
  have hal : allowsR (M.sizes d) (turnsR (M.sizes d) M.quanta M.ns.length (o.turn, o.cr)).1 (turnsR (M.sizes d) M.quanta M.ns.length (o.turn, o.cr)).2 = true := by
    obtain ⟨y, hy, hy0⟩ := List.all_eq_false.1 hall
    obtain ⟨i, hi, rfl⟩ := List.getElem_of_mem hy
    refine turnsR_found (h.sizes_le d) h.quanta_bd hr (i := i) (by simpa [Ag.sizes] using hi) ?_
    rw [List.getD_eq_getElem?_getD, List.getElem?_eq_getElem hi]
    simp at hy0 ⊢
    omega
  have hrt := turnsR_rot (h.sizes_le d) h.quanta_bd M.ns.length (o.turn, o.cr) hr
  have ht : (o.picked (M.sizes d) M.quanta).turn = (turnsR (M.sizes d) M.quanta M.ns.length (o.turn, o.cr)).1 := by rw [picked_turn, hlen]
  have hlt : (o.picked (M.sizes d) M.quanta).turn < M.ns.length := by rw [ht]; exact hrt.turn
  have hpos : 0 < (M.sizes d).getD (o.picked (M.sizes d) M.quanta).turn 0 := by
    rw [ht]
    unfold allowsR at hal
    simp only [Bool.and_eq_true, decide_eq_true_eq] at hal
    exact hal.1
  obtain ⟨x, hx⟩ : ∃ x, M.ns[(o.picked (M.sizes d) M.quanta).turn]? = some x := ⟨_, List.getElem?_eq_getElem hlt⟩
  have hsz' : ∀ t : Nat, M.ns[t]? = some x → 0 < (M.sizes d).getD t 0 → 0 < M.size d x := fun t h1 h2 => by
    unfold Ag.sizes at h2
    rw [List.getD_eq_getElem?_getD, List.getElem?_map, h1] at h2
    simpa using h2
  have hsz := hsz' _ hx hpos
  have hnm : M.named d o = (pend M.bs d x).headD 0 := by
    unfold Ag.named
    rw [List.getD_eq_getElem?_getD, hx]
    rfl
  cases hp : pend M.bs d x with
  | nil => unfold Ag.size at hsz; rw [hp] at hsz; simp at hsz
  | cons p ps =>
    refine ⟨x, p, ps, hx, hp, by rw [hnm, hp]; rfl, fun r hr => ?_⟩
    unfold Ag.size at hsz
    rw [hp] at hsz
    simp only [hr, Option.map_some, Option.getD_some] at hsz
    by_cases e : M.now < r.fr
    · rw [if_pos e] at hsz; cases hsz
    · omega
theorem sentTo_by {M : Ag} {t : Nat} (hi : Inv M t) (ht : t ≤ 10000000000000) (d : Nat) : SentBy M (M.sentTo d).2 (M.sentTo d).1 := by
  cases ho : M.os[d]? with
  | none =>
    have e : M.sentTo d = (M, []) := by unfold Ag.sentTo; rw [ho]
    rw [e]
    exact SentBy.nil M
  | some o =>
    by_cases hn : o.way ≠ -1 ∨ (o.trip = true ∧ M.now < o.unt) ∨ (M.sizes d).all (· == 0) = true
    · rw [sentTo_not ho hn]
      exact SentBy.nil M
    · have hw : o.way = -1 := by
        by_cases e : o.way = -1
        · exact e
        · exact absurd (Or.inl e) hn
      have hop : ¬ (o.trip = true ∧ M.now < o.unt) := fun e => hn (Or.inr (Or.inl e))
      have hall : (M.sizes d).all (· == 0) = false := by
        cases e : (M.sizes d).all (· == 0) with
        | false => rfl
        | true => exact absurd (Or.inr (Or.inr e)) hn
      have hso := hi.sendOk ht
      obtain ⟨_, _, _, _, hrot, _⟩ := hi.os d o ho
      obtain ⟨x, p, ps, hx, hp, hnm, hfr⟩ := picked_fr hso hrot hall
      obtain ⟨b, hb, hbd, hbt, hbs⟩ := mem_pend.1 (show p ∈ pend M.bs d x by rw [hp]; simp)
      obtain ⟨r, hr⟩ : ∃ r, M.rt[p]? = some r := ⟨_, List.getElem?_eq_getElem (by rw [hi.rl]; exact (List.getElem?_eq_some_iff.1 hb).1)⟩
      rw [sentTo_eq ho hw hop hall, hnm]
      refine SentBy.cons M _ _ [] d p o { o.picked (M.sizes d) M.quanta with sends := o.sends + 1, way := p, began := M.now } b r rfl ho hw rfl hb hbs hbd ?_ ?_ hr (hfr r hr) rfl rfl rfl (SentBy.nil _)
      · simp [hb]
      · simp [hb]

theorem sentOut_by {M : Ag} {t : Nat} (hi : Inv M t) (ht : t ≤ 10000000000000) (hsd : ∀ (d : Nat) o, M.os[d]? = some o → o.sends + 1 ≤ t) : ∀ k, SentBy M (M.sentOut k).2 (M.sentOut k).1
  | 0 => SentBy.nil M
  | k + 1 => (sentOut_by hi ht hsd k).append (sentTo_by (hi.sentOut ht hsd k) ht k)

/-- A send that went. -/
theorem RW.sent {R : Rn} {M : Ag} {s : Sd} {d p : Nat} {o o' : Out} {y : Wy} {f : Fa} (h : RW R M) (ho : M.os[d]? = some o) (hy : R.ws[d]? = some y) (hf : R.fs[p]? = some f) (h1 : s.try' = o.sends + 1) (h2 : o'.way = p) (h3 : o'.sends = o.sends + 1) (h4 : o'.began = M.now) : RW { R with ws := R.ws.set d ⟨p, s.try', R.time⟩, fs := R.fs.set p { f with sn := f.sn + 1 } } { M with os := M.os.set d o' } := by
  have hdl := (List.getElem?_eq_some_iff.1 hy).1
  have hdM := (List.getElem?_eq_some_iff.1 ho).1
  have hpl := (List.getElem?_eq_some_iff.1 hf).1
  have key : ∀ (i : Nat) (f' : Fa), (R.fs.set p { f with sn := f.sn + 1 })[i]? = some f' → ∃ f0, R.fs[i]? = some f0 ∧ f'.b = f0.b ∧ f'.af = f0.af := fun i f' hf' => by
    by_cases e : p = i
    · subst e
      rw [List.getElem?_set_self hpl] at hf'
      cases hf'
      exact ⟨f, hf, rfl, rfl⟩
    · rw [List.getElem?_set_ne e] at hf'
      exact ⟨f', hf', rfl, rfl⟩
  refine ⟨by simp only [List.length_set]; exact h.len, by simp only [List.length_set]; exact h.wl, fun d' y' o1 hy' ho1 => ?_, fun i f' r b hf' hr hb hst => ?_, h.time, fun i f' b hf' hb => ?_⟩
  · simp only at hy' ho1
    by_cases e : d = d'
    · subst e
      rw [List.getElem?_set_self hdl] at hy'
      rw [List.getElem?_set_self hdM] at ho1
      cases hy'
      cases ho1
      exact ⟨h2.symm, h1.trans h3.symm, fun _ => h.time.trans h4.symm⟩
    · rw [List.getElem?_set_ne e] at hy' ho1
      exact h.ws d' y' o1 hy' ho1
  · obtain ⟨f0, g1, _, g3⟩ := key i f' hf'
    rw [g3]
    exact h.af i f0 r b g1 hr hb hst
  · obtain ⟨f0, g1, g2, _⟩ := key i f' hf'
    rw [g2]
    exact h.same i f0 b g1 hb
end Go.Proofs.YtojpjaifhjigfabGreatDoor

/- conduitkeep's run against the agent: what a look finds. -/
namespace Go.Proofs.YtojpjaifhjigfabGreatDoor
open Go.RowKit Go.Maps

theorem Goes.refl {M : Ag} {t : Nat} (hi : Inv M t) {b : Bat} (hb : b ∈ M.bs) : Goes M.c.at' b b := by
  obtain ⟨_, _, _, _, _, _, h0, h⟩ := hi.each b hb
  refine ⟨⟨rfl, rfl, rfl, rfl⟩, by omega, fun _ => ⟨rfl, rfl⟩, Int.le_refl _, by omega, by omega⟩
theorem Goes.trans {a : Int} {b b1 b2 : Bat} (h : Goes a b b1) (k : Goes a b1 b2) : Goes a b b2 := by
  obtain ⟨h1, h2, h3, h4⟩ := h.same
  obtain ⟨k1, k2, k3, k4⟩ := k.same
  refine ⟨⟨k1.trans h1, k2.trans h2, k3.trans h3, k4.trans h4⟩, k.st, fun hn => ?_, Int.le_trans h.up k.up, k.top, k.full⟩
  obtain ⟨q1, q2⟩ := h.over hn
  obtain ⟨q3, q4⟩ := k.over (by rw [q1]; exact hn)
  exact ⟨q3.trans q1, q4.trans q2⟩
theorem over_goes {M : Ag} {t d : Nat} {o : Out} {p : Nat} {b : Bat} {r : Ret} {draw : Int} (hi : Inv M t) (hs : SetOk M d o p b r draw) (hst : b.st = 1) (hfl : b.fl < M.c.at') (good : Bool) {i : Nat} {x x' : Bat} (hx : M.bs[i]? = some x) (hx' : (M.over d good draw).bs[i]? = some x') : Goes M.c.at' x x' := by
  rw [over_eq hs good] at hx'
  simp only at hx'
  have hp := (List.getElem?_eq_some_iff.1 hs.hb).1
  have hf0 := hs.f0
  by_cases e : p = i
  · subst e
    rw [List.getElem?_set_self hp] at hx'
    rw [hs.hb] at hx
    cases hx
    cases hx'
    cases good
    · simp only [Bool.false_eq_true, if_false]
      by_cases hd : M.c.at' ≤ b.fl + 1
      · rw [if_pos hd]
        refine ⟨⟨rfl, rfl, rfl, rfl⟩, Or.inr (Or.inr (by simp [Bat.ended])), fun hn => absurd hst hn, by show b.fl ≤ b.fl + 1; omega, by show b.fl + 1 ≤ M.c.at'; omega, ?_⟩
        refine ⟨fun _ => by simp [Bat.ended], fun _ => by show b.fl + 1 = M.c.at'; omega⟩
      · rw [if_neg hd]
        refine ⟨⟨rfl, rfl, rfl, rfl⟩, Or.inl (by simp [Bat.ended, hst]), fun hn => absurd hst hn, by show b.fl ≤ b.fl + 1; omega, by show b.fl + 1 ≤ M.c.at'; omega, ?_⟩
        refine ⟨fun hh => ?_, fun hh => ?_⟩
        · have : b.fl + 1 = M.c.at' := hh
          omega
        · simp [Bat.ended, hst] at hh
    · simp only [if_true]
      refine ⟨⟨rfl, rfl, rfl, rfl⟩, Or.inr (Or.inl (by simp [Bat.ended])), fun hn => absurd hst hn, by show b.fl ≤ b.fl + 0; omega, by show b.fl + 0 ≤ M.c.at'; omega, ?_⟩
      refine ⟨fun hh => ?_, fun hh => ?_⟩
      · have : b.fl + 0 = M.c.at' := hh
        omega
      · simp [Bat.ended] at hh
  · rw [List.getElem?_set_ne e] at hx'
    rw [hx] at hx'
    cases hx'
    exact Goes.refl hi (List.mem_of_getElem? hx)
theorem over_bs_len {M : Ag} {d : Nat} {o : Out} {p : Nat} {b : Bat} {r : Ret} {draw : Int} (hs : SetOk M d o p b r draw) (good : Bool) : (M.over d good draw).bs.length = M.bs.length ∧ (M.over d good draw).c = M.c ∧ (M.over d good draw).os.length = M.os.length := by
  rw [over_eq hs good]
  simp
/-- Of the first k destinations those that took too long are over. -/
def Rn.overs (R : Rn) (c : Cfg) : Nat → Rn
  | 0 => R
  | k + 1 => match R.ws[k]? with
    | none => R.overs c k
    | some y => if 0 ≤ y.f ∧ c.ti ≤ R.time - y.bg then (R.overs c k).over c.ba k false else R.overs c k
theorem Rn.overs_succ (R : Rn) (c : Cfg) (k : Nat) : R.overs c (k + 1) = match R.ws[k]? with | none => R.overs c k | some y => if 0 ≤ y.f ∧ c.ti ≤ R.time - y.bg then (R.overs c k).over c.ba k false else R.overs c k := rfl
theorem Ag.overs_succ (M : Ag) (draw : Int) (k : Nat) : M.overs draw (k + 1) = match M.os[k]? with | none => M.overs draw k | some o => if o.way ≠ -1 ∧ M.c.ti ≤ M.now - o.began then (M.overs draw k).over k false draw else M.overs draw k := rfl
structure OversOk (R : Rn) (M : Ag) (draw : Int) (k : Nat) : Prop where
  rw' : RW (R.overs M.c k) (M.overs draw k)
  goes : ∀ (i : Nat) (x x' : Bat), M.bs[i]? = some x → (M.overs draw k).bs[i]? = some x' → Goes M.c.at' x x'
  fb : (R.overs M.c k).fs.map Fa.b = R.fs.map Fa.b
  sn : (R.overs M.c k).fs.map Fa.sn = R.fs.map Fa.sn
  ws : ∀ d, k ≤ d → (R.overs M.c k).ws[d]? = R.ws[d]?
  time : (R.overs M.c k).time = R.time ∧ (R.overs M.c k).n = R.n
theorem over_fb (R : Rn) (ba : Int) (d : Nat) (good : Bool) : (R.over ba d good).fs.map Fa.b = R.fs.map Fa.b ∧ (R.over ba d good).fs.map Fa.sn = R.fs.map Fa.sn ∧ (R.over ba d good).time = R.time ∧ (R.over ba d good).n = R.n ∧ ∀ d', d ≠ d' → (R.over ba d good).ws[d']? = R.ws[d']? := by
  unfold Rn.over
  cases R.ws[d]? with
  | none => exact ⟨rfl, rfl, rfl, rfl, fun _ _ => rfl⟩
  | some y =>
    simp only
    refine ⟨?_, ?_, trivial, trivial, fun d' hd => by rw [List.getElem?_set_ne hd]⟩
    · cases good
      · simp only [Bool.false_eq_true, if_false]
        apply List.ext_getElem?
        intro i
        rw [List.getElem?_map, List.getElem?_map, List.getElem?_modify]
        cases R.fs[i]? with
        | none => rfl
        | some f => simp only [Option.map_eq_map, Option.map_some]; split <;> rfl
      · rfl
    · cases good
      · simp only [Bool.false_eq_true, if_false]
        apply List.ext_getElem?
        intro i
        rw [List.getElem?_map, List.getElem?_map, List.getElem?_modify]
        cases R.fs[i]? with
        | none => rfl
        | some f => simp only [Option.map_eq_map, Option.map_some]; split <;> rfl
      · rfl
/-- What the harness asks is what the agent asks. -/
theorem late_iff {R : Rn} {M : Ag} {t d : Nat} {y : Wy} {o : Out} (h : RW R M) (hi : Inv M t) (hy : R.ws[d]? = some y) (ho : M.os[d]? = some o) : (0 ≤ y.f ∧ M.c.ti ≤ R.time - y.bg) ↔ (o.way ≠ -1 ∧ M.c.ti ≤ M.now - o.began) := by
  obtain ⟨h1, _, h3⟩ := h.ws d y o hy ho
  have hw := hi.way d o ho
  rw [h1, h.time]
  constructor
  · rintro ⟨a, b⟩
    have hn : o.way ≠ -1 := by omega
    rw [h3 hn] at b
    exact ⟨hn, b⟩
  · rintro ⟨a, b⟩
    rw [h3 a]
    rcases hw with hw | ⟨p, _, hw, _⟩
    · exact absurd hw a
    · exact ⟨by omega, b⟩
theorem overs_ok {R : Rn} {M : Ag} {t : Nat} {draw : Int} (h : RW R M) (hi : Inv M t) (ht : t ≤ 10000000000000) (hd : 0 ≤ draw) : ∀ k, OversOk R M draw k
  | 0 => ⟨h, fun i x x' h1 h2 => by
      have h2' : M.bs[i]? = some x' := h2
      rw [h1] at h2'
      cases h2'
      exact Goes.refl hi (List.mem_of_getElem? h1), rfl, rfl, fun _ _ => rfl, rfl, rfl⟩
  | k + 1 => by
    have ih := overs_ok h hi ht hd k
    obtain ⟨i1, i2, _, _, i5, i6⟩ := overs_os hi ht hd k
    cases ho : M.os[k]? with
    | none =>
      have hw : R.ws[k]? = none := List.getElem?_eq_none (by rw [h.wl]; exact List.getElem?_eq_none_iff.1 ho)
      have e1 : R.overs M.c (k + 1) = R.overs M.c k := by rw [Rn.overs_succ, hw]
      have e2 : M.overs draw (k + 1) = M.overs draw k := by rw [Ag.overs_succ, ho]
      refine ⟨by rw [e1, e2]; exact ih.rw', fun i x x' h1 h2 => ih.goes i x x' h1 (by rw [← e2]; exact h2), by rw [e1]; exact ih.fb, by rw [e1]; exact ih.sn, fun d hd' => by rw [e1]; exact ih.ws d (by omega), by rw [e1]; exact ih.time⟩
    | some o =>
      obtain ⟨y, hy⟩ : ∃ y, R.ws[k]? = some y := ⟨_, List.getElem?_eq_getElem (by rw [h.wl]; exact (List.getElem?_eq_some_iff.1 ho).1)⟩
      have hiff := late_iff h hi hy ho
      by_cases hc : o.way ≠ -1 ∧ M.c.ti ≤ M.now - o.began
      · have e1 : R.overs M.c (k + 1) = (R.overs M.c k).over M.c.ba k false := by rw [Rn.overs_succ, hy]; simp only; rw [if_pos (hiff.2 hc)]
        have e2 : M.overs draw (k + 1) = (M.overs draw k).over k false draw := by rw [Ag.overs_succ, ho]; simp only; rw [if_pos hc]
        have ho2 : (M.overs draw k).os[k]? = some o := (i2 k (Nat.le_refl _)).trans ho
        obtain ⟨p, b, r, hs, hst, hdst, hfl⟩ := i1.setOk ht hd ho2 hc.1
        have hcc : (M.overs draw k).c = M.c := i6
        obtain ⟨f1, f2, f3, f4, f5⟩ := over_fb (R.overs M.c k) M.c.ba k false
        refine ⟨?_, fun i x x' h1 h2 => ?_, by rw [e1]; exact f1.trans ih.fb, by rw [e1]; exact f2.trans ih.sn, fun d hd' => ?_, by rw [e1]; exact ⟨f3.trans ih.time.1, f4.trans ih.time.2⟩⟩
        · rw [e1, e2, ← hcc]
          have := ih.rw'.over hs false
          rw [hcc] at this ⊢
          exact this
        · rw [e2] at h2
          obtain ⟨l1, _, _⟩ := over_bs_len hs false
          have hil : i < (M.overs draw k).bs.length := by rw [← l1]; exact (List.getElem?_eq_some_iff.1 h2).1
          obtain ⟨x1, hx1⟩ : ∃ x1, (M.overs draw k).bs[i]? = some x1 := ⟨_, List.getElem?_eq_getElem hil⟩
          have g2 := over_goes i1 hs hst hfl false hx1 h2
          rw [hcc] at g2
          exact (ih.goes i x x1 h1 hx1).trans g2
        · rw [e1, f5 d (by omega)]
          exact ih.ws d (by omega)
      · have e1 : R.overs M.c (k + 1) = R.overs M.c k := by rw [Rn.overs_succ, hy]; simp only; rw [if_neg (fun hh => hc (hiff.1 hh))]
        have e2 : M.overs draw (k + 1) = M.overs draw k := by rw [Ag.overs_succ, ho]; simp only; rw [if_neg hc]
        refine ⟨by rw [e1, e2]; exact ih.rw', fun i x x' h1 h2 => ih.goes i x x' h1 (by rw [← e2]; exact h2), by rw [e1]; exact ih.fb, by rw [e1]; exact ih.sn, fun d hd' => by rw [e1]; exact ih.ws d (by omega), by rw [e1]; exact ih.time⟩
end Go.Proofs.YtojpjaifhjigfabGreatDoor

/- conduitkeep.body. -/
namespace Go.Proofs.YtojpjaifhjigfabGreatDoor
open Go.RowKit Go.Maps

/-- A body of n bytes. -/
def kbody (n : Nat) : List UInt8 := (List.range n).map fun i => UInt8.ofNat (97 + i % 26)
theorem kbody_len (n : Nat) : (kbody n).length = n := by simp [kbody]
theorem kbody_succ (n : Nat) : kbody (n + 1) = kbody n ++ [UInt8.ofNat (97 + n % 26)] := by simp [kbody, List.range_succ]

theorem one_row (w : World) (x : Value) : (w.alloc (.cells #[x] 5)).ownsRow 0 5 1 (.slice (some ⟨w.heap.size, 0, none⟩) 1 1) 1 [x] :=
  ⟨rfl, Or.inr ⟨_, _, _, rfl, Nat.zero_le _, obj_new rfl _, Nat.le_refl _, by unfold maxLen; omega, rfl, rfl⟩⟩
theorem convert_one (w : World) (x : UInt8) : (convert 113 9 (.slice (some ⟨w.heap.size, 0, none⟩) 1 1)).run Tryz.prog (w.alloc (.cells #[.int .u8 x.toNat] 5)) = .ok (encStr [x]) (w.alloc (.cells #[.int .u8 x.toNat] 5)) := by
  refine run_convert_bytes_back _ 113 9 5 ⟨w.heap.size, 0, none⟩ 1 [x] Tryz.underlying113 Tryz.underlying5 Tryz.underlying9 (fun j hj => ?_)
  exact (one_row w _).cells (by simp [Value.ownBlock]) j _ (by match j, hj with | 0, _ => rfl)

set_option maxRecDepth 100000 in
set_option maxHeartbeats 1000000 in
theorem kbody_any (n : Nat) (w : World) (h : n ≤ 64) : Calls Tryz.prog 46 #[.int .i64 n] w fun e w' => e = .returned (encStr (kbody n)) ∧ Below w.heap.size w w' := by
  go_enter Tryz.func46, Tryz.ntmps46
  go_wp2_with fail
  go_loopw [3, 4] (fun s i wr => ∃ k : Nat, k ≤ n ∧ s = encStr (kbody k) ∧ i = .int .i64 k ∧ Below w.heap.size w wr) (fun _ i _ => n - (intOf i).toNat)
  case atStart => exact ⟨0, Nat.zero_le _, rfl, rfl, Below.refl _ _⟩
  case round =>
    obtain ⟨k, hk, rfl, rfl, hnx⟩ := hrel
    have Hnx := hide hnx
    clear hnx
    by_cases hlt : k < n
    · have hltI : (k : Int) < (n : Int) := by omega
      have e1 : (97 + (k : Int) % 26) = ((UInt8.ofNat (97 + k % 26)).toNat : Int) := by
        rw [UInt8.toNat_ofNat']
        omega
      have hcv : (convert 113 9 (.slice (some ⟨wr.heap.size, 0, none⟩) 1 1)).run Tryz.prog (wr.alloc (.cells #[.int .u8 (97 + (k : Int) % 26)] 5)) = .ok (encStr [UInt8.ofNat (97 + k % 26)]) (wr.alloc (.cells #[.int .u8 (97 + (k : Int) % 26)] 5)) := by
        have := convert_one wr (UInt8.ofNat (97 + k % 26))
        rw [← e1] at this
        exact this
      have hsu := kbody_succ k
      have hcat := fun w => run_concat (kbody k) [UInt8.ofNat (97 + k % 26)] w (by rw [kbody_len]; simp; omega)
      generalize UInt8.ofNat (97 + k % 26) = x at *
      have Hsu := hide hsu
      clear e1 hsu
      generalize hkb : kbody k = kb at *
      clear hkb
      unfold encStr at *
      go_wp2_with fail
      go_roundw
      case rel => exact ⟨k + 1, by omega, by rw [Hsu.out], by go_num, (Hnx.out).alloc Hnx.out.size _⟩
      case measure => simp [intOf]; omega
    · obtain rfl : k = n := by omega
      have hgt : ¬ ((k : Int) < (k : Int)) := by omega
      go_wp2_with fail
      go_ret
      exact ⟨rfl, Hnx.out⟩
end Go.Proofs.YtojpjaifhjigfabGreatDoor

/- Deficit round robin: while everybody waits, what went, divided by the quanta, is nearly alike. -/
namespace Go.Proofs.YtojpjaifhjigfabGreatDoor
open Go.RowKit Go.Maps

/-- How many quanta each has had, when R rounds are over and the turn is t's. -/
def rho (R : Int) (t i : Nat) : Int := if 0 < i ∧ i ≤ t then R + 1 else R
/-- What went (b) and what is left are whole quanta. -/
structure Bal (n : Nat) (q : List Int) (b : Nat → Int) (s : Nat × List Int) : Prop where
  eq : ∃ R : Int, ∀ i, i < n → b i + s.2.getD i 0 = rho R s.1 i * q.getD i 0
  top : s.2.getD s.1 0 ≤ q.getD s.1 0 + 63

theorem Bal.pass {n : Nat} {q : List Int} {b : Nat → Int} {s : Nat × List Int} (h : Bal n q b s) (hr : Rot n s) {sizes : List Nat} (hs : ∀ i, sizes.getD i 0 ≤ 64) (h0 : 0 < sizes.getD s.1 0) (hno : allowsR sizes s.1 s.2 = false) : Bal n q b (passR sizes q s) := by
  obtain ⟨t, cr⟩ := s
  obtain ⟨R, he⟩ := h.eq
  have ht : t < n := hr.turn
  have hl : cr.length = n := hr.len
  simp only at he h0 hno
  have hct : cr.getD t 0 ≤ 63 := by
    have hz := hs t
    unfold allowsR at hno
    rw [Bool.and_eq_false_iff, decide_eq_false_iff_not, decide_eq_false_iff_not] at hno
    omega
  have hlow : ∀ i, i < n → cr.getD i 0 ≤ 63 := fun i hi => by
    by_cases e : i = t
    · subst e; exact hct
    · exact hr.low i hi e
  have hn : ¬ sizes.getD t 0 = 0 := by omega
  have ep : passR sizes q (t, cr) = ((t + 1) % n, cr.set ((t + 1) % n) (cr.getD ((t + 1) % n) 0 + q.getD ((t + 1) % n) 0)) := by
    unfold passR
    simp only [hl, if_neg hn]
  rw [ep]
  have ht' : (t + 1) % n < n := Nat.mod_lt _ (by omega)
  refine ⟨?_, ?_⟩
  · by_cases hw : t + 1 < n
    · have em : (t + 1) % n = t + 1 := Nat.mod_eq_of_lt hw
      rw [em]
      refine ⟨R, fun i hi => ?_⟩
      simp only
      rw [getD_set (by omega)]
      have := he i hi
      by_cases e : t + 1 = i
      · subst e
        rw [if_pos rfl]
        unfold rho at this ⊢
        rw [if_neg (by omega)] at this
        rw [if_pos (by omega), Int.add_mul, Int.one_mul]
        omega
      · rw [if_neg e, this]
        unfold rho
        by_cases hi2 : 0 < i ∧ i ≤ t
        · rw [if_pos hi2, if_pos (by omega)]
        · rw [if_neg hi2, if_neg (by omega)]
    · have en : t + 1 = n := by omega
      have em : (t + 1) % n = 0 := by rw [en]; exact Nat.mod_self n
      rw [em]
      refine ⟨R + 1, fun i hi => ?_⟩
      simp only
      rw [getD_set (by omega)]
      have := he i hi
      by_cases e : 0 = i
      · subst e
        rw [if_pos rfl]
        unfold rho at this ⊢
        rw [if_neg (by omega)] at this
        rw [if_neg (by omega), Int.add_mul, Int.one_mul]
        omega
      · rw [if_neg e, this]
        unfold rho
        rw [if_pos (by omega), if_neg (by omega)]
  · simp only
    rw [getD_set (by omega), if_pos rfl]
    have := hlow _ ht'
    omega

theorem Bal.turns {n : Nat} {q : List Int} {b : Nat → Int} {sizes : List Nat} (hs : ∀ i, sizes.getD i 0 ≤ 64) (hq : ∀ i, i < n → 64 ≤ q.getD i 0 ∧ q.getD i 0 ≤ 1000) (hp : ∀ i, i < n → 0 < sizes.getD i 0) : ∀ (m : Nat) (s : Nat × List Int), Rot n s → Bal n q b s → Bal n q b (turnsR sizes q m s)
  | 0, _, _, h => h
  | m + 1, s, hr, h => by
    unfold turnsR
    cases e : allowsR sizes s.1 s.2 with
    | true => simpa using h
    | false => simpa using Bal.turns hs hq hp m _ (hr.pass hs hq e).1 (h.pass hr hs (hp _ hr.turn) e)

/-- Whoever has the turn pays for what goes. -/
theorem Bal.pay {n : Nat} {q : List Int} {b : Nat → Int} {s : Nat × List Int} (h : Bal n q b s) (hr : Rot n s) {z : Int} (hz : 0 ≤ z) : Bal n q (fun i => if i = s.1 then b i + z else b i) (s.1, s.2.set s.1 (s.2.getD s.1 0 - z)) := by
  obtain ⟨R, he⟩ := h.eq
  have ht := hr.turn
  have hl := hr.len
  refine ⟨⟨R, fun i hi => ?_⟩, ?_⟩
  · simp only
    rw [getD_set (by omega)]
    have := he i hi
    by_cases e : i = s.1
    · subst e
      rw [if_pos rfl, if_pos rfl]
      omega
    · rw [if_neg e, if_neg (fun e' => e e'.symm)]
      exact this
  · simp only
    rw [getD_set (by omega), if_pos rfl]
    have := h.top
    omega

/-- What went of two of them, one of whom has the turn. -/
theorem Bal.fair {n : Nat} {q : List Int} {b : Nat → Int} {s : Nat × List Int} (h : Bal n q b s) (hr : Rot n s) (hq : ∀ i, i < n → 64 ≤ q.getD i 0 ∧ q.getD i 0 ≤ 1000) {t : Nat} (ht : t < n) :
    b t * q.getD s.1 0 - b s.1 * q.getD t 0 < 3 * q.getD t 0 * q.getD s.1 0 ∧ -(3 * q.getD t 0 * q.getD s.1 0) < b t * q.getD s.1 0 - b s.1 * q.getD t 0 := by
  obtain ⟨R, he⟩ := h.eq
  have hw := hr.turn
  have e1 := he t ht
  have e2 := he s.1 hw
  have p1 := hr.pos t ht
  have p2 := hr.pos s.1 hw
  have htop := h.top
  obtain ⟨a1, _⟩ := hq t ht
  obtain ⟨a2, _⟩ := hq s.1 hw
  have hlow : t ≠ s.1 → s.2.getD t 0 ≤ 63 := fun hne => hr.low t ht hne
  have hrho : rho R s.1 t = rho R s.1 s.1 ∨ rho R s.1 t = rho R s.1 s.1 - 1 := by
    unfold rho
    by_cases c1 : 0 < t ∧ t ≤ s.1
    · rw [if_pos c1, if_pos (by omega)]; exact Or.inl rfl
    · rw [if_neg c1]
      by_cases c2 : 0 < s.1 ∧ s.1 ≤ s.1
      · rw [if_pos c2]; exact Or.inr (by omega)
      · rw [if_neg c2]; exact Or.inl rfl
  by_cases hne : t = s.1
  · subst hne
    have : 0 < 3 * q.getD s.1 0 * q.getD s.1 0 := Int.mul_pos (by omega) (by omega)
    omega
  · have hlo := hlow hne
    generalize rho R s.1 t = rt at *
    generalize rho R s.1 s.1 = rw' at *
    generalize q.getD t 0 = qt at *
    generalize q.getD s.1 0 = qw at *
    generalize s.2.getD t 0 = ct at *
    generalize s.2.getD s.1 0 = cw at *
    have eb1 : b t = rt * qt - ct := by omega
    have eb2 : b s.1 = rw' * qw - cw := by omega
    rw [eb1, eb2]
    have m1 : ct * qw ≤ qt * qw := Int.mul_le_mul_of_nonneg_right (by omega) (by omega)
    have m2 : 0 ≤ ct * qw := Int.mul_nonneg (by omega) (by omega)
    have m3 : cw * qt ≤ (2 * qw) * qt := Int.mul_le_mul_of_nonneg_right (by omega) (by omega)
    have m4 : 0 ≤ cw * qt := Int.mul_nonneg (by omega) (by omega)
    have m5 : 0 < qt * qw := Int.mul_pos (by omega) (by omega)
    have x1 : (2 * qw) * qt = 2 * (qt * qw) := by rw [Int.mul_assoc, Int.mul_comm qw qt]
    have x2 : 3 * qt * qw = 3 * (qt * qw) := Int.mul_assoc _ _ _
    have x3 : (rt * qt - ct) * qw = rt * (qt * qw) - ct * qw := by rw [Int.sub_mul, Int.mul_assoc]
    have x4 : (rw' * qw - cw) * qt = rw' * (qt * qw) - cw * qt := by rw [Int.sub_mul, Int.mul_assoc, Int.mul_comm qw qt]
    rw [x1] at m3
    rw [x2, x3, x4]
    rcases hrho with rfl | rfl
    · omega
    · rw [Int.sub_mul, Int.one_mul]
      omega
end Go.Proofs.YtojpjaifhjigfabGreatDoor

/- Fair: the batches that are handed in. -/
namespace Go.Proofs.YtojpjaifhjigfabGreatDoor
open Go.RowKit Go.Maps

/-- The batch that Fair hands in as number i, of N tenants. -/
def fbat (szs : List Int) (N i : Nat) : Bat := ⟨0, kn.getD (i % N) [], kid i, kbody (pickN (szs.getD i 0) 64), 1, 0⟩
theorem made_good (zs : List Int) : GoodC (madeC zs) (DT (madeT zs (1 + pickN (zs.getD 9 0) 4))) := by
  have h9 := pickN_lt (zs.getD 9 0) (n := 4) (by omega)
  have h0 := pickN_lt (zs.getD 0 0) (n := 3) (by omega)
  have h1 := pickN_lt (zs.getD 1 0) (n := 5) (by omega)
  have h2 := pickN_lt (zs.getD 2 0) (n := 50) (by omega)
  have h3 := pickN_lt (zs.getD 3 0) (n := 80) (by omega)
  have h4 := pickN_lt (zs.getD 4 0) (n := 8) (by omega)
  have h5 := pickN_lt (zs.getD 5 0) (n := 200) (by omega)
  have h6 := pickN_lt (zs.getD 6 0) (n := 300) (by omega)
  have h7 := pickN_lt (zs.getD 7 0) (n := 1 + pickN (zs.getD 4 0) 8) (by omega)
  have h8 := pickN_lt (zs.getD 8 0) (n := 4) (by omega)
  refine ⟨?_, (made_goodQ zs (by omega) (by omega)).1, quarter_ok h8⟩
  simp only [Cfg.numB, Cfg.nums, madeC, List.all_cons, List.all_nil, inB, Bool.and_true, Bool.and_eq_true, decide_eq_true_eq]
  omega
/-- The tenants of what is made. -/
theorem made_keys (zs : List Int) {k : Nat} (h1 : 1 ≤ k) (h2 : k ≤ 4) : strKeys (DT (madeT zs k)) = kn.take k := by
  rcases (by omega : k = 1 ∨ k = 2 ∨ k = 3 ∨ k = 4) with rfl | rfl | rfl | rfl
  · have e : DT (madeT zs 1) = _ := dt1 _
    rw [e]; rfl
  · have e : DT (madeT zs 2) = _ := dt2 _ _
    rw [e]; rfl
  · have e : DT (madeT zs 3) = _ := dt3 _ _ _
    rw [e]; rfl
  · have e : DT (madeT zs 4) = _ := dt4 _ _ _ _
    rw [e]; rfl

/-- An agent with k batches handed in. -/
structure FSub (zs szs : List Int) (N k : Nat) (M : Ag) : Prop where
  bs : M.bs = (List.range k).map (fbat szs N)
  os : M.os = (Ag.new (madeC zs) M.D M.ns).os
  rt : ∀ r ∈ M.rt, r.fr ≤ 0
  now : M.now = 0
  c : M.c = madeC zs
  D : M.D = DT (madeT zs N)
  has : ∀ t, t < N → Maps.has M.D (.string (kn.getD t [])) = true

theorem FSub.ok {zs szs : List Int} {N k : Nat} {M : Ag} (h : FSub zs szs N k M) (hN : 0 < N) (hk : k < 100) : M.refusal (fbat szs N k) = 0 := by
  have hl : M.bs.length = k := by rw [h.bs]; simp
  have hdd : destB M 0 = true := by simp [destB, h.c, madeC]; omega
  have hf : findId M.bs (kid k) = -1 := by
    unfold findId
    have : M.bs.findIdx? (fun b => b.id == kid k) = none := by
      rw [List.findIdx?_eq_none_iff]
      intro b hb
      rw [h.bs] at hb
      obtain ⟨j, hj, rfl⟩ := List.mem_map.1 hb
      have hj' : j < k := List.mem_range.1 hj
      simp only [beq_eq_false_iff_ne, ne_eq]
      intro e2
      have := kid_inj (by omega) (by omega) (show kid j = kid k from e2)
      omega
    rw [this]
  have hp : ∀ (d : Int) x, d ≠ 0 → pend M.bs d x = [] := fun d x hd => List.eq_nil_iff_forall_not_mem.2 fun i hi => by
    obtain ⟨b, h1, h2, _⟩ := mem_pend.1 hi
    have hb := List.mem_of_getElem? h1
    rw [h.bs] at hb
    obtain ⟨j, _, rfl⟩ := List.mem_map.1 hb
    exact hd h2.symm
  have hw : ∀ x, (waits M.bs x : Int) < M.c.q := fun x => by
    have hq : M.c.q = 100 := by rw [h.c]; rfl
    have a0 := pend_le M.bs 0 x
    unfold waits
    rw [hp 1 x (by omega), hp 2 x (by omega), hp 3 x (by omega)]
    simp only [List.length_nil]
    omega
  unfold Ag.refusal Ag.misfit
  have e1 : destB M (fbat szs N k).dst = true := hdd
  have e2 : Maps.has M.D (.string (fbat szs N k).ten) = true := h.has _ (Nat.mod_lt _ hN)
  have e3 : inB (fbat szs N k).id.length 1 16 = true := rfl
  have e4 : ¬ 63 < (fbat szs N k).body.length := by
    have := pickN_lt (szs.getD k 0) (n := 64) (by omega)
    show ¬ 63 < (kbody _).length
    rw [kbody_len]
    omega
  have e5 : findId M.bs (fbat szs N k).id = -1 := hf
  have e6 : ¬ M.c.q ≤ (waits M.bs (fbat szs N k).ten : Int) := by have := hw (fbat szs N k).ten; omega
  simp only [e1, e2, e3, if_neg e4, e5]
  simp only [Bool.true_eq_false, if_false, ne_eq, not_true_eq_false]
  rw [if_neg (by omega : ¬ 120 ≤ M.bs.length)]
  simp only [not_true_eq_false, if_false]
  rw [if_neg e6]
theorem FSub.next {zs szs : List Int} {N k : Nat} {M : Ag} (h : FSub zs szs N k M) (hN : 0 < N) (hk : k < 100) : FSub zs szs N (k + 1) (M.submitted (fbat szs N k)) := by
  unfold Ag.submitted
  rw [if_pos (h.ok hN hk)]
  refine ⟨?_, h.os, fun r hr => ?_, h.now, h.c, h.D, h.has⟩
  · show M.bs ++ [(fbat szs N k).fresh] = _
    rw [h.bs, List.range_succ, List.map_append]
    rfl
  · rcases List.mem_append.1 (show r ∈ M.rt ++ [⟨M.now, M.c.ba⟩] from hr) with h5 | h5
    · exact h.rt r h5
    · obtain rfl := List.mem_singleton.1 h5
      show M.now ≤ 0
      rw [h.now]
      omega
end Go.Proofs.YtojpjaifhjigfabGreatDoor
