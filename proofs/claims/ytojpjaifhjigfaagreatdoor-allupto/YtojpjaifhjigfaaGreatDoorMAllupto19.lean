/- Steps of the proof (several texts in one): SimR, RefDied. -/
import Derived.Test.YtojpjaifhjigfaaGreatDoorMAllupto16
import Derived.Test.YtojpjaifhjigfaaGreatDoorMAllupto18
import Derived.Test.YtojpjaifhjigfaaGreatDoorMAllupto05
import Derived.Test.YtojpjaifhjigfaaGreatDoorMAllupto03

/- The program's agent and the document's go alike: what stands between them, and how each call keeps it. -/
namespace Go.Proofs.YtojpjaifhjigfaaGreatDoor
open Go.RowKit Go.Maps

/-- A destination of the program's and one of the document's. -/
structure OutSim (o l : Out) : Prop where
  res : l.res = o.res
  fl : l.fl = o.fl
  trip : l.trip = o.trip
  unt : o.trip = true → l.unt = o.unt ∧ o.res = 0 ∧ o.fl = 0
  turn : l.turn = o.turn
  cr : l.cr = o.cr
  sends : l.sends = o.sends
  way : l.way = o.way
  began : l.began = o.began
/-- A pending batch's pause. -/
def RetSim (now : Int) (q : Ret) (r : RBat) : Prop := r.pa = q.pa ∧ (r.af = q.fr ∨ (r.af ≤ now ∧ q.fr ≤ now))
/-- The program's agent and the document's. -/
structure Sim (M : Ag) (R : Rf) : Prop where
  c : R.c = M.c
  ns : R.ns = M.ns
  bs : R.bs = M.bs
  dead : R.dead = M.dead
  time : R.time = M.now
  qs : R.qs = M.quanta
  len : R.ls.length = M.os.length
  ls : ∀ (d : Nat) (o l : Out), M.os[d]? = some o → R.ls[d]? = some l → OutSim o l
  rt : ∀ (p : Nat) (q : Ret) (r : RBat), M.rt[p]? = some q → R.rs[p]? = some r → r.b.st = 1 → RetSim M.now q r

theorem Sim.rl {M : Ag} {R : Rf} (h : Sim M R) : R.rs.length = M.bs.length := by have := congrArg List.length h.bs; simpa [Rf.bs] using this
theorem Sim.line {M : Ag} {R : Rf} (h : Sim M R) {d : Nat} {o : Out} (ho : M.os[d]? = some o) : ∃ l, R.ls[d]? = some l ∧ OutSim o l := by
  have hd := (List.getElem?_eq_some_iff.1 ho).1
  have hl : R.ls[d]? = some (R.ls[d]'(by rw [h.len]; exact hd)) := List.getElem?_eq_getElem _
  exact ⟨_, hl, h.ls d o _ ho hl⟩
theorem Sim.noLine {M : Ag} {R : Rf} (h : Sim M R) {d : Nat} (ho : M.os[d]? = none) : R.ls[d]? = none := by
  rw [List.getElem?_eq_none_iff] at ho ⊢
  rw [h.len]; exact ho
theorem Sim.bat {M : Ag} {R : Rf} (h : Sim M R) {p : Nat} {b : Bat} (hb : M.bs[p]? = some b) : ∃ r, R.rs[p]? = some r ∧ r.b = b := by
  rw [← h.bs] at hb
  simp only [Rf.bs, List.getElem?_map, Option.map_eq_some_iff] at hb
  exact hb

/-- A result turns both alike. -/
theorem OutSim.result {o l : Out} (h : OutSim o l) {c : Cfg} {now : Int} (good : Bool) (hw : o.res < c.wi) : OutSim (o.heard c now good) (l.result c now good) := by
  obtain ⟨h1, h2, h3, h4, h5, h6, h7, h8, h9⟩ := h
  unfold Out.heard Out.result
  rw [h3]
  cases ht : o.trip
  · simp only [Bool.false_eq_true, if_false]
    unfold Out.counted
    dsimp only
    rw [h1, h2]
    by_cases hc : (decide (c.le ≤ o.res + 1) && tooMany c.th (if good = true then o.fl else o.fl + 1) (o.res + 1)) = true
    · rw [if_pos hc, if_pos hc]
      exact ⟨rfl, rfl, rfl, fun _ => ⟨rfl, rfl, rfl⟩, h5, h6, h7, h8, h9⟩
    · rw [if_neg hc, if_neg hc]
      by_cases hr : o.res + 1 = c.wi
      · rw [if_pos hr, if_pos (show c.wi ≤ o.res + 1 by omega)]
        exact ⟨rfl, rfl, by show _ = o.trip; simp [ht], (fun e => absurd (ht.symm.trans e) Bool.false_ne_true), h5, h6, h7, h8, h9⟩
      · rw [if_neg hr, if_neg (show ¬ c.wi ≤ o.res + 1 by omega)]
        exact ⟨rfl, rfl, by show _ = o.trip; simp [ht], (fun e => absurd (ht.symm.trans e) Bool.false_ne_true), h5, h6, h7, h8, h9⟩
  · obtain ⟨u1, u2, u3⟩ := h4 ht
    simp only [if_true]
    cases good
    · exact ⟨by show l.res = 0; rw [h1, u2], by show l.fl = 0; rw [h2, u3], rfl, fun _ => ⟨rfl, rfl, rfl⟩, h5, h6, h7, h8, h9⟩
    · exact ⟨h1, h2, rfl, (fun e => absurd e Bool.false_ne_true), h5, h6, h7, h8, h9⟩
theorem OutSim.idle {o l : Out} (h : OutSim o l) : OutSim { o with way := -1 } { l with way := -1 } := ⟨h.res, h.fl, h.trip, h.unt, h.turn, h.cr, h.sends, rfl, h.began⟩

/-- What over wants of the document's agent. -/
theorem Sim.overOk {M : Ag} {R : Rf} {t d p : Nat} {o l : Out} {b : Bat} {q : Ret} {r : RBat} {draw : Int} (h : Sim M R) (hi : Inv M t) (hs : SetOk M d o p b q draw) (hst : b.st = 1) (hl : R.ls[d]? = some l) (hr : R.rs[p]? = some r) (hrb : r.b = b) : OverOk R d p l r draw := by
  have hol := h.ls d o l hs.ho hl
  have hq := (h.rt p q r hs.hr hr (by rw [hrb]; exact hst)).1
  refine ⟨hl, by rw [hol.way]; exact hs.way, hr, by rw [hrb]; exact hs.f0, by rw [hrb]; exact hs.f1, by rw [hol.res]; exact hs.r0, by rw [hol.res]; exact hs.r1, by rw [hol.fl]; exact hs.l0, by rw [hol.fl, hol.res]; exact hs.l1, by rw [h.c]; exact hs.c, by rw [h.c, hq]; exact hs.p1, by rw [h.c, hq]; exact hs.p2, hs.dr, by rw [h.time]; exact hs.n0, by rw [h.time]; exact hs.n1, by rw [h.dead]; have := hi.dead_le; omega⟩

theorem sim_over {M : Ag} {R : Rf} {t d p : Nat} {o l : Out} {b : Bat} {q : Ret} {r : RBat} {draw : Int} (h : Sim M R) (hi : Inv M t) (hs : SetOk M d o p b q draw) (hst : b.st = 1) (hfl : b.fl < M.c.at') (hl : R.ls[d]? = some l) (hr : R.rs[p]? = some r) (hrb : r.b = b) (good : Bool) : Sim (M.over d good draw) (R.overed d p l r good draw) := by
  have hol := h.ls d o l hs.ho hl
  obtain ⟨_, hwi, _⟩ := hi.os d o hs.ho
  have hrt := h.rt p q r hs.hr hr (by rw [hrb]; exact hst)
  have hdl := (List.getElem?_eq_some_iff.1 hs.ho).1
  have hdl2 := (List.getElem?_eq_some_iff.1 hl).1
  have hpl := (List.getElem?_eq_some_iff.1 hr).1
  have hpl2 := (List.getElem?_eq_some_iff.1 hs.hr).1
  rw [over_eq hs good]
  unfold Rf.overed
  refine ⟨h.c, h.ns, ?_, ?_, h.time, h.qs, by simpa using h.len, fun d' o' l' ho' hl' => ?_, fun p' q' r' hq' hr' hst' => ?_⟩
  · show (R.rs.set p _).map (·.b) = M.bs.set p _
    rw [List.map_set]
    have hb := h.bs
    unfold Rf.bs at hb
    rw [hb]
    congr 1
    unfold RBat.overed
    cases good
    · simp only [Bool.false_eq_true, if_false]
      rw [hrb, h.c]
      by_cases hx : M.c.at' ≤ b.fl + 1
      · rw [if_pos hx, if_pos (by omega)]
        rfl
      · rw [if_neg hx, if_neg (by omega)]
        rfl
    · simp only [if_true]
      rw [hrb]
      simp [Bat.ended]
  · show (if good = false ∧ r.b.fl + 1 = R.c.at' then R.dead ++ [p] else R.dead) = _
    rw [hrb, h.c, h.dead]
    cases good
    · simp only [true_and, Bool.false_eq_true, if_false]
      by_cases hx : M.c.at' ≤ b.fl + 1
      · rw [if_pos hx, if_pos (by omega)]
      · rw [if_neg hx, if_neg (by omega)]
    · simp
  · have ho'' : (M.os.set d _)[d']? = some o' := ho'
    have hl'' : (R.ls.set d _)[d']? = some l' := hl'
    by_cases e : d' = d
    · subst e
      rw [List.getElem?_set_self hdl] at ho''
      rw [List.getElem?_set_self hdl2] at hl''
      cases ho''
      cases hl''
      rw [h.c, h.time]
      exact hol.idle.result good hwi
    · rw [List.getElem?_set_ne (fun e' => e e'.symm)] at ho'' hl''
      exact h.ls d' o' l' ho'' hl''
  · have hr'' : (R.rs.set p (r.overed R.c R.time draw good))[p']? = some r' := hr'
    by_cases e : p' = p
    · subst e
      rw [List.getElem?_set_self hpl] at hr''
      cases hr''
      cases good
      · simp only [Bool.false_eq_true, if_false] at hq'
        by_cases hx : M.c.at' ≤ b.fl + 1
        · exfalso
          unfold RBat.overed at hst'
          simp only [Bool.false_eq_true, if_false] at hst'
          rw [hrb, h.c, if_pos (by omega)] at hst'
          omega
        · rw [if_neg hx, List.getElem?_set_self hpl2] at hq'
          cases hq'
          unfold RBat.overed
          simp only [Bool.false_eq_true, if_false]
          rw [h.c, h.time, hrt.1]
          exact ⟨rfl, Or.inl rfl⟩
      · exfalso
        unfold RBat.overed at hst'
        simp at hst'
    · rw [List.getElem?_set_ne (fun e' => e e'.symm)] at hr''
      refine h.rt p' q' r' ?_ hr'' hst'
      cases good
      · simp only [Bool.false_eq_true, if_false] at hq'
        by_cases hx : M.c.at' ≤ b.fl + 1
        · rw [if_pos hx] at hq'; exact hq'
        · rw [if_neg hx, List.getElem?_set_ne (fun e' => e e'.symm)] at hq'; exact hq'
      · simp only [if_true] at hq'; exact hq'

/-- Time goes on. -/
def Rf.later (R : Rf) (ms : Int) : Rf := { R with time := R.time + ms }
theorem sim_later {M : Ag} {R : Rf} (h : Sim M R) {ms : Int} (h0 : 0 ≤ ms) : Sim (M.later ms) (R.later ms) :=
  ⟨h.c, h.ns, h.bs, h.dead, by show R.time + ms = M.now + ms; rw [h.time], h.qs, h.len, h.ls, fun p q r hq hr hst => by
    obtain ⟨a, b⟩ := h.rt p q r hq hr hst
    exact ⟨a, b.imp id (fun ⟨x, y⟩ => ⟨by show r.af ≤ M.now + ms; omega, by show q.fr ≤ M.now + ms; omega⟩)⟩⟩
theorem Sim.logged {M : Ag} {R : Rf} (h : Sim M R) (l : List UInt8) : Sim { M with log := l } R := ⟨h.c, h.ns, h.bs, h.dead, h.time, h.qs, h.len, h.ls, h.rt⟩

/-- The end of a send, whatever stands there. -/
def Rf.over (R : Rf) (d : Nat) (good : Bool) (draw : Int) : Rf := match R.ls[d]? with
  | none => R
  | some o => match R.rs[o.way.toNat]? with
    | none => R
    | some r => R.overed d o.way.toNat o r good draw
/-- Of the first k destinations each send that took too long is over. -/
def Rf.overs (R : Rf) (draw : Int) : Nat → Rf
  | 0 => R
  | k + 1 => match (R.overs draw k).ls[k]? with
    | none => R.overs draw k
    | some o => if 0 ≤ o.way ∧ o.began + (R.overs draw k).c.ti ≤ (R.overs draw k).time then (R.overs draw k).over k false draw else R.overs draw k

theorem Sim.over_is {M : Ag} {R : Rf} {d p : Nat} {o l : Out} {b : Bat} {q : Ret} {r : RBat} {draw : Int} (h : Sim M R) (hs : SetOk M d o p b q draw) (hl : R.ls[d]? = some l) (hr : R.rs[p]? = some r) (good : Bool) : R.over d good draw = R.overed d p l r good draw := by
  have hw : l.way = p := by rw [(h.ls d o l hs.ho hl).way]; exact hs.way
  unfold Rf.over
  rw [hl]
  simp only [hw, Int.toNat_natCast, hr]
/-- One destination's time-out, as the walk wants it. -/
theorem Sim.overs_step {M : Ag} {R : Rf} {t k : Nat} {draw : Int} (h : Sim (M.overs draw k) (R.overs draw k)) (hi : Inv M t) (ht : t ≤ 10000000000000) (hd : 0 ≤ draw) : Sim (M.overs draw (k + 1)) (R.overs draw (k + 1)) ∧
    ∀ l, (R.overs draw k).ls[k]? = some l → 0 ≤ l.way → ∃ p r, l.way = (p : Nat) ∧ OverOk (R.overs draw k) k p l r draw ∧ (R.overs draw k).over k false draw = (R.overs draw k).overed k p l r false draw := by
  obtain ⟨i1, i2, _, _, i5, i6⟩ := overs_os hi ht hd k
  have eM : M.overs draw (k + 1) = match M.os[k]? with
    | none => M.overs draw k
    | some o => if o.way ≠ -1 ∧ M.c.ti ≤ M.now - o.began then (M.overs draw k).over k false draw else M.overs draw k := rfl
  have eR : R.overs draw (k + 1) = match (R.overs draw k).ls[k]? with
    | none => R.overs draw k
    | some o => if 0 ≤ o.way ∧ o.began + (R.overs draw k).c.ti ≤ (R.overs draw k).time then (R.overs draw k).over k false draw else R.overs draw k := rfl
  rw [eM, eR]
  cases ho : M.os[k]? with
  | none =>
    have ho' : (M.overs draw k).os[k]? = none := (i2 k (Nat.le_refl _)).trans ho
    rw [h.noLine ho']
    exact ⟨h, fun l hl => by cases hl⟩
  | some o =>
    have ho' : (M.overs draw k).os[k]? = some o := (i2 k (Nat.le_refl _)).trans ho
    obtain ⟨l, hl, hol⟩ := h.line ho'
    rw [hl]
    simp only
    have key : 0 ≤ l.way → ∃ p b q r, SetOk (M.overs draw k) k o p b q draw ∧ b.st = 1 ∧ b.fl < (M.overs draw k).c.at' ∧ (R.overs draw k).rs[p]? = some r ∧ r.b = b := fun hw => by
      have hw' : o.way ≠ -1 := by have := hol.way; omega
      obtain ⟨p, b, q, hs, hst, _, hfl⟩ := i1.setOk ht hd ho' hw'
      obtain ⟨r, hr, hrb⟩ := h.bat hs.hb
      exact ⟨p, b, q, r, hs, hst, hfl, hr, hrb⟩
    have hwn : o.way = -1 ∨ 0 ≤ o.way := by
      rcases i1.way k o ho' with e | ⟨p, b, e, _⟩
      · exact Or.inl e
      · exact Or.inr (by omega)
    refine ⟨?_, fun l' hl' hw => ?_⟩
    · have hcond : (o.way ≠ -1 ∧ M.c.ti ≤ M.now - o.began) ↔ (0 ≤ l.way ∧ l.began + (R.overs draw k).c.ti ≤ (R.overs draw k).time) := by
        rw [hol.way, hol.began, h.c, h.time, i5, i6]
        omega
      by_cases hc : o.way ≠ -1 ∧ M.c.ti ≤ M.now - o.began
      · rw [if_pos hc, if_pos (hcond.1 hc)]
        obtain ⟨p, b, q, r, hs, hst, hfl, hr, hrb⟩ := key (hcond.1 hc).1
        rw [h.over_is hs hl hr]
        exact sim_over h i1 hs hst hfl hl hr hrb false
      · rw [if_neg hc, if_neg (fun e => hc (hcond.2 e))]
        exact h
    · cases hl'
      obtain ⟨p, b, q, r, hs, hst, hfl, hr, hrb⟩ := key hw
      exact ⟨p, r, by rw [hol.way]; exact hs.way, h.overOk i1 hs hst hl hr hrb, h.over_is hs hl hr false⟩
theorem sim_overs {M : Ag} {R : Rf} {t : Nat} {draw : Int} (h : Sim M R) (hi : Inv M t) (ht : t ≤ 10000000000000) (hd : 0 ≤ draw) : ∀ k, Sim (M.overs draw k) (R.overs draw k)
  | 0 => h
  | k + 1 => ((sim_overs h hi ht hd k).overs_step hi ht hd).1

/-- What may go of a lane. -/
theorem Sim.hd_eq {M : Ag} {R : Rf} {t : Nat} (h : Sim M R) (hi : Inv M t) (d : Int) (x : List UInt8) : R.hd d x = match pend M.bs d x with | [] => -1 | p :: _ => if M.now < (M.rt[p]?.map (·.fr)).getD 0 then -1 else (p : Int) := by
  unfold Rf.hd
  rw [h.bs]
  cases e : pend M.bs d x with
  | nil => rfl
  | cons p ps =>
    obtain ⟨b, hb, hb1, hb2, hb3⟩ := mem_pend.1 (show p ∈ pend M.bs d x by rw [e]; simp)
    obtain ⟨r, hr, hrb⟩ := h.bat hb
    have hpl := (List.getElem?_eq_some_iff.1 hb).1
    obtain ⟨q, hq⟩ : ∃ q, M.rt[p]? = some q := ⟨_, List.getElem?_eq_getElem (by rw [hi.rl]; exact hpl)⟩
    obtain ⟨_, h2⟩ := h.rt p q r hq hr (by rw [hrb]; exact hb3)
    simp only [hr, hq, Option.map_some, Option.getD_some, h.time]
    by_cases c : M.now < q.fr
    · rw [if_pos c, if_pos (by omega)]
    · rw [if_neg c, if_neg (by omega)]
theorem Sim.sz {M : Ag} {R : Rf} {t : Nat} (h : Sim M R) (hi : Inv M t) (d : Nat) (x : List UInt8) : R.sz d x = M.size d x := by
  unfold Rf.sz Ag.size
  rw [h.hd_eq hi, h.bs]
  cases e : pend M.bs d x with
  | nil => simp
  | cons p ps =>
    simp only
    by_cases c : M.now < (M.rt[p]?.map (·.fr)).getD 0
    · rw [if_pos c, if_pos c]; simp
    · rw [if_neg c, if_neg c, if_neg (by omega)]
      simp
theorem Sim.sizes {M : Ag} {R : Rf} {t : Nat} (h : Sim M R) (hi : Inv M t) (d : Nat) : R.sizes d = M.sizes d := by
  unfold Rf.sizes Ag.sizes
  rw [h.ns]
  exact List.map_congr_left (fun x _ => h.sz hi d x)

/-- What a destination of the document's sends. -/
def Rf.sentTo (R : Rf) (d : Nat) : Rf × List Sd := match R.ls[d]? with
  | none => (R, [])
  | some o => if 0 ≤ o.way ∨ (o.trip = true ∧ R.time < o.unt) then (R, []) else
    if (R.namedAt d o).1 < 0 then ((R.namedAt d o).2, []) else
    ({ R with ls := R.ls.set d { o.picked (R.sizes d) R.qs with sends := o.sends + 1, way := (R.namedAt d o).1, began := R.time } }, [⟨d, o.sends + 1, (R.bs[(R.namedAt d o).1.toNat]?.map (·.id)).getD [], (R.bs[(R.namedAt d o).1.toNat]?.map (·.body)).getD []⟩])
def Rf.sentOut (R : Rf) : Nat → Rf × List Sd
  | 0 => (R, [])
  | k + 1 => let x := R.sentOut k; ((x.1.sentTo k).1, x.2 ++ (x.1.sentTo k).2)

theorem Sim.namedOk {M : Ag} {R : Rf} {t d : Nat} {o l : Out} (h : Sim M R) (hi : Inv M t) (ho : M.os[d]? = some o) (hl : R.ls[d]? = some l) : NamedOk R d l := by
  have hol := h.ls d o l ho hl
  obtain ⟨_, _, _, _, a5, _⟩ := hi.os d o ho
  have ht : (0 : Nat) ≤ 10000000000000 := by omega
  refine ⟨hl, by rw [h.ns, hol.turn, hol.cr]; exact a5, by rw [h.ns]; exact hi.nl, by rw [h.rl]; exact hi.b120, fun b hb => by rw [h.bs] at hb; exact (hi.each b hb).2.2.2.2.2.1, by rw [h.qs, h.ns]; simp [Ag.quanta], fun i hii => ?_⟩
  rw [h.ns] at hii
  rw [h.qs]
  unfold Ag.quanta
  rw [List.getD_eq_getElem?_getD, List.getElem?_map, List.getElem?_eq_getElem hii]
  exact hi.q _ (List.getElem_mem hii)

/-- Whose turn it is has something that may go. -/
theorem picked_pos {M : Ag} {d : Nat} {o : Out} (h : SendOk M) (hr : Rot M.ns.length (o.turn, o.cr)) (hall : (M.sizes d).all (· == 0) = false) {x : List UInt8} (hx : M.ns[(o.picked (M.sizes d) M.quanta).turn]? = some x) : 0 < M.size d x := by
  have hlen : o.cr.length = M.ns.length := hr.len
  have hal : allowsR (M.sizes d) (turnsR (M.sizes d) M.quanta M.ns.length (o.turn, o.cr)).1 (turnsR (M.sizes d) M.quanta M.ns.length (o.turn, o.cr)).2 = true := by
    obtain ⟨y, hy, hy0⟩ := List.all_eq_false.1 hall
    obtain ⟨i, hi, rfl⟩ := List.getElem_of_mem hy
    refine turnsR_found (h.sizes_le d) h.quanta_bd hr (i := i) (by simpa [Ag.sizes] using hi) ?_
    rw [List.getD_eq_getElem?_getD, List.getElem?_eq_getElem hi]
    simp at hy0 ⊢
    omega
  have ht : (o.picked (M.sizes d) M.quanta).turn = (turnsR (M.sizes d) M.quanta M.ns.length (o.turn, o.cr)).1 := by rw [picked_turn, hlen]
  have hpos : 0 < (M.sizes d).getD (o.picked (M.sizes d) M.quanta).turn 0 := by
    rw [ht]
    unfold allowsR at hal
    simp only [Bool.and_eq_true, decide_eq_true_eq] at hal
    exact hal.1
  generalize (o.picked (M.sizes d) M.quanta).turn = t at *
  unfold Ag.sizes at hpos
  rw [List.getD_eq_getElem?_getD, List.getElem?_map, hx] at hpos
  simpa using hpos
/-- What is named, on both sides. -/
theorem Sim.named {M : Ag} {R : Rf} {t d : Nat} {o l : Out} (h : Sim M R) (hi : Inv M t) (ht : t ≤ 10000000000000) (ho : M.os[d]? = some o) (hl : R.ls[d]? = some l) :
    R.namedAt d l = if (M.sizes d).all (· == 0) = true then (-1, R) else ((M.named d o : Int), { R with ls := R.ls.set d (l.picked (R.sizes d) R.qs) }) := by
  have hol := h.ls d o l ho hl
  obtain ⟨_, _, _, _, a5, _⟩ := hi.os d o ho
  unfold Rf.namedAt
  rw [h.sizes hi d]
  cases hall : (M.sizes d).all (· == 0) with
  | true => rfl
  | false =>
    simp only [Bool.false_eq_true, if_false]
    have hso := hi.sendOk ht
    obtain ⟨x, p, ps, hx, hp, hnm⟩ := picked_head hso a5 hall
    have htn : (l.picked (M.sizes d) R.qs).turn = (o.picked (M.sizes d) M.quanta).turn := by
      simp only [Out.picked, hol.turn, hol.cr, h.qs]
    rw [htn, h.ns, hnm, h.hd_eq hi]
    have hx' : M.ns.getD (o.picked (M.sizes d) M.quanta).turn [] = x := by rw [List.getD_eq_getElem?_getD, hx]; rfl
    rw [hx', hp]
    simp only
    have hz : 0 < M.size d x := picked_pos hso a5 hall hx
    unfold Ag.size at hz
    rw [hp] at hz
    simp only at hz
    by_cases c : M.now < (M.rt[p]?.map (·.fr)).getD 0
    · rw [if_pos c] at hz; omega
    · rw [if_neg c]

/-- A destination's send, on both sides. -/
theorem sim_sentTo {M : Ag} {R : Rf} {t : Nat} (h : Sim M R) (hi : Inv M t) (ht : t ≤ 10000000000000) (d : Nat) : Sim (M.sentTo d).1 (R.sentTo d).1 ∧ (R.sentTo d).2 = (M.sentTo d).2 := by
  cases ho : M.os[d]? with
  | none =>
    have hl := h.noLine ho
    unfold Ag.sentTo Rf.sentTo
    rw [ho, hl]
    exact ⟨h, rfl⟩
  | some o =>
    obtain ⟨l, hl, hol⟩ := h.line ho
    have hdl := (List.getElem?_eq_some_iff.1 ho).1
    have hdl2 := (List.getElem?_eq_some_iff.1 hl).1
    have hnd := h.named hi ht ho hl
    have hwn : o.way = -1 ∨ 0 ≤ o.way := by
      rcases hi.way d o ho with e | ⟨p, b, e, _⟩
      · exact Or.inl e
      · exact Or.inr (by omega)
    have hopen : (l.trip = true ∧ R.time < l.unt) ↔ (o.trip = true ∧ M.now < o.unt) := by
      rw [hol.trip, h.time]
      constructor
      · rintro ⟨e1, e2⟩; exact ⟨e1, by rw [← (hol.unt e1).1]; exact e2⟩
      · rintro ⟨e1, e2⟩; exact ⟨e1, by rw [(hol.unt e1).1]; exact e2⟩
    unfold Rf.sentTo
    rw [hl]
    simp only
    by_cases hc : o.way ≠ -1 ∨ (o.trip = true ∧ M.now < o.unt)
    · rw [if_pos (by rw [hol.way, hopen]; rcases hc with e | e; exact Or.inl (by omega); exact Or.inr e), sentTo_not ho (by rcases hc with e | e; exact Or.inl e; exact Or.inr (Or.inl e))]
      exact ⟨h, rfl⟩
    · rw [if_neg (by rw [hol.way, hopen]; rintro (e | e); exact hc (Or.inl (by omega)); exact hc (Or.inr e))]
      cases hall : (M.sizes d).all (· == 0) with
      | true =>
        rw [hall] at hnd
        simp only [if_true] at hnd
        rw [hnd, if_pos (by show (-1 : Int) < 0; omega), sentTo_not ho (Or.inr (Or.inr hall))]
        exact ⟨h, rfl⟩
      | false =>
        rw [hall] at hnd
        simp only [Bool.false_eq_true, if_false] at hnd
        have hw : o.way = -1 := Classical.byContradiction fun e => hc (Or.inl e)
        have hop : ¬ (o.trip = true ∧ M.now < o.unt) := fun e => hc (Or.inr e)
        rw [hnd, if_neg (by show ¬ ((M.named d o : Int) < 0); omega), sentTo_eq ho hw hop hall]
        simp only [Int.toNat_natCast]
        refine ⟨⟨h.c, h.ns, h.bs, h.dead, h.time, h.qs, by simpa using h.len, fun d' o' l' ho' hl' => ?_, h.rt⟩, by rw [h.bs, hol.sends]⟩
        have ho'' : (M.os.set d _)[d']? = some o' := ho'
        have hl'' : (R.ls.set d _)[d']? = some l' := hl'
        by_cases e : d' = d
        · subst e
          rw [List.getElem?_set_self hdl] at ho''
          rw [List.getElem?_set_self hdl2] at hl''
          cases ho''
          cases hl''
          have hs := h.sizes hi d'
          refine ⟨hol.res, hol.fl, hol.trip, hol.unt, ?_, ?_, ?_, rfl, h.time⟩
          · show (l.picked _ _).turn = (o.picked _ _).turn
            simp only [Out.picked, hol.turn, hol.cr, h.qs, hs]
          · show (l.picked _ _).cr = (o.picked _ _).cr
            simp only [Out.picked, hol.turn, hol.cr, h.qs, hs]
          · show l.sends + 1 = o.sends + 1
            rw [hol.sends]
        · rw [List.getElem?_set_ne (fun e' => e e'.symm)] at ho'' hl''
          exact h.ls d' o' l' ho'' hl''
theorem sim_sentOut {M : Ag} {R : Rf} {t : Nat} (h : Sim M R) (hi : Inv M t) (ht : t ≤ 10000000000000) (hsd : ∀ (d : Nat) o, M.os[d]? = some o → o.sends + 1 ≤ t) : ∀ k, Sim (M.sentOut k).1 (R.sentOut k).1 ∧ (R.sentOut k).2 = (M.sentOut k).2
  | 0 => ⟨h, rfl⟩
  | k + 1 => by
    obtain ⟨i1, i2⟩ := sim_sentOut h hi ht hsd k
    obtain ⟨j1, j2⟩ := sim_sentTo i1 (hi.sentOut ht hsd k) ht k
    exact ⟨j1, by simp only [Rf.sentOut, Ag.sentOut]; rw [i2, j2]⟩

/-- Tick. -/
def Rf.ticked (R : Rf) (ms draw : Int) : Rf × List Sd := ((R.later ms).overs draw R.ls.length).sentOut R.ls.length
theorem sim_timed {M : Ag} {R : Rf} {t : Nat} {draw : Int} (h : Sim M R) (hi : Inv M t) (ht : t ≤ 10000000000000) (hd : 0 ≤ draw) : Sim (M.timed draw) (R.overs draw R.ls.length) := by
  rw [timed_eq (hi.giveOk ht hd), h.len]
  exact (sim_overs h hi ht hd _).logged _
/-- What stands behind the time-outs. -/
theorem Sim.behind {M : Ag} {R : Rf} {t : Nat} {ms draw : Int} (h : Sim M R) (hi : Inv M t) (ht : t + 1 ≤ 10000000000000) (h0 : 0 ≤ ms) (h1 : ms ≤ 60000) (hd : 0 ≤ draw) :
    Sim ((M.later ms).timed draw) ((R.later ms).overs draw R.ls.length) ∧ Inv ((M.later ms).timed draw) (t + 1) ∧ ∀ (d : Nat) o, ((M.later ms).timed draw).os[d]? = some o → o.sends + 1 ≤ ((t + 1 : Nat) : Int) := by
  have hl := hi.later h0 h1
  obtain ⟨i1, i2, _⟩ := hl.timed ht hd (by have := hi.lg; show M.log.length + 15 ≤ _; omega)
  refine ⟨sim_timed (sim_later h h0) hl ht hd, i1, fun d o ho => ?_⟩
  obtain ⟨o', e1, e2⟩ := sends_of i2 ho
  obtain ⟨_, _, _, _, _, _, a7, _⟩ := hi.os d o' e1
  omega
theorem overs_len {R : Rf} {draw : Int} : ∀ k, (R.overs draw k).ls.length = R.ls.length
  | 0 => rfl
  | k + 1 => by
    have ih := overs_len (R := R) (draw := draw) k
    unfold Rf.overs
    cases (R.overs draw k).ls[k]? with
    | none => exact ih
    | some o =>
      simp only
      split
      · unfold Rf.over
        cases (R.overs draw k).ls[k]? with
        | none => exact ih
        | some o' =>
          simp only
          cases (R.overs draw k).rs[o'.way.toNat]? with
          | none => exact ih
          | some r => simpa [Rf.overed] using ih
      · exact ih
theorem sim_ticked {M : Ag} {R : Rf} {t : Nat} {ms draw : Int} (h : Sim M R) (hi : Inv M t) (ht : t + 1 ≤ 10000000000000) (h0 : 0 ≤ ms) (h1 : ms ≤ 60000) (hd : 0 ≤ draw) : Sim (M.ticked ms draw).1 (R.ticked ms draw).1 ∧ (R.ticked ms draw).2 = (M.ticked ms draw).2 := by
  obtain ⟨q1, q2, q3⟩ := h.behind hi ht h0 h1 hd
  have e : R.ls.length = ((M.later ms).timed draw).os.length := by
    rw [← q1.len, overs_len]
    rfl
  unfold Ag.ticked Rf.ticked
  rw [e] at q1 ⊢
  exact sim_sentOut q1 q2 ht q3 _
/-- Reply. -/
theorem sim_replied {M : Ag} {R : Rf} {t d : Nat} {o : Out} {draw : Int} (h : Sim M R) (hi : Inv M t) (ht : t ≤ 10000000000000) (hd : 0 ≤ draw) (ho : M.os[d]? = some o) (hw : o.way ≠ -1) (good : Bool) :
    Sim (M.replied d good draw) (R.over d good draw) ∧ ∃ p l r, R.ls[d]? = some l ∧ l.way = (p : Nat) ∧ OverOk R d p l r draw ∧ R.over d good draw = R.overed d p l r good draw := by
  obtain ⟨p, b, q, hs, hst, _, hfl⟩ := hi.setOk ht hd ho hw
  obtain ⟨l, hl, hol⟩ := h.line ho
  obtain ⟨r, hr, hrb⟩ := h.bat hs.hb
  obtain ⟨k, _, _, f, e⟩ := replied_eq hs good
  have e2 := h.over_is hs hl hr good
  rw [e]
  refine ⟨Sim.logged ?_ _, p, l, r, hl, by rw [hol.way]; exact hs.way, h.overOk hi hs hst hl hr hrb, e2⟩
  rw [e2]
  exact sim_over h hi hs hst hfl hl hr hrb good
end Go.Proofs.YtojpjaifhjigfaaGreatDoor

/- Died: the document's side, of any list of dead ones. -/
namespace Go.Proofs.YtojpjaifhjigfaaGreatDoor
open Go.RowKit Go.Maps

/-- The dead ones' ids. -/
def Rf.ids (R : Rf) : List (List UInt8) := R.dead.map fun p => ((R.bs[p]?).map (·.id)).getD []
/-- A new list of texts, or nil. -/
def DiedAt (w w' : World) (ss : List (List UInt8)) (e : Ending) : Prop := ∃ v, e = .returned v ∧ w'.ownsRow w.heap.size 9 1 v ss.length (ss.map encStr) ∧ Below w.heap.size w w'

set_option maxRecDepth 100000 in
set_option maxHeartbeats 4000000 in
theorem refDied_any (L : Labs) (who g : Nat) (R : Rf) (w : World) (h : RefAt w L who g R) (hd : ∀ p ∈ R.dead, p < R.rs.length) (hb : R.rs.length ≤ 120) (hdl : R.dead.length ≤ 120) :
    Calls Tryz.prog 79 #[.pointer (some ⟨g, 0, none⟩)] w fun e w' => DiedAt w w' R.ids e := by
  obtain ⟨nv, qv, bv, dv, la, lk, h⟩ := h
  obtain ⟨da, dc, rfl, _⟩ := h.dd.shape
  obtain ⟨ta, tc, rfl, _⟩ := h.tk.shape
  have c13 : w.cell? ⟨g, 13, none⟩ = some (.slice ta R.rs.length tc) := h.blk.1.cell 13
  have c14 : w.cell? ⟨g, 14, none⟩ = some (.slice da R.dead.length dc) := h.blk.1.cell 14
  have hgl := h.blk.1.lt
  obtain ⟨i0, hi, hz0, hz1, hz2⟩ := info_parts infoStr
  have hidl : R.ids.length = R.dead.length := by simp [Rf.ids]
  have HD := hide hd
  have HH := hide h
  have HL := hide hidl
  have C13 := hide c13
  have C14 := hide c14
  generalize hn : R.dead.length = n at *
  generalize hm : R.rs.length = m at *
  have Hn := hide hn
  have Hm := hide hm
  clear hd h hidl hn hm c13 c14
  go_enter Tryz.func79, Tryz.ntmps79
  go_wp2_with fail
  go_loopw [3, 4] (fun v i wr => ∃ (k : Nat) (a : Option Addr) (cap : Nat), k ≤ n ∧ i = .int .i64 k ∧ v = .slice a k cap ∧ wr.ownsRow w.heap.size 9 1 (.slice a k cap) k ((R.ids.take k).map encStr) ∧ Below w.heap.size w wr) (fun _ i _ => n - (intOf i).toNat)
  case atStart => exact ⟨0, none, 0, Nat.zero_le _, rfl, rfl, ⟨by simp, Or.inl ⟨rfl, rfl⟩⟩, Below.refl _ _⟩
  case round =>
    obtain ⟨k, a, cap, hk, rfl, rfl, hr, hnx⟩ := hrel
    have Hr := hide hr
    have Hnx := hide hnx
    have e14 : wr.cell? ⟨g, 14, none⟩ = some (.slice da n dc) := (hnx.cell (p := ⟨g, 14, none⟩) hgl).trans C14.out
    have e13 : wr.cell? ⟨g, 13, none⟩ = some (.slice ta m tc) := (hnx.cell (p := ⟨g, 13, none⟩) hgl).trans C13.out
    have hwz : w.heap.size ≤ wr.heap.size := hnx.size
    clear hr hnx
    by_cases hlt : k < n
    · have hltI : (k : Int) < (n : Int) := by omega
      obtain ⟨gd, rfl, hgd, _, hcd, _⟩ := (show RowAt w L (some (who, .dd)) 3 1 (.slice da n dc) n (ints R.dead) by have := HH.out.dd; rw [Hn.out] at this; exact this).head (by omega)
      obtain ⟨p, hp⟩ : ∃ p, R.dead[k]? = some p := ⟨_, List.getElem?_eq_getElem (by rw [Hn.out]; exact hlt)⟩
      have hpm : p < m := HD.out p (List.mem_of_getElem? hp)
      have hpI : (p : Int) < (m : Int) := by omega
      obtain ⟨gt, rfl, hgt, _, hct, _⟩ := (show RowAt w L (some (who, .tk)) 112 8 (.slice ta m tc) m (R.rs.flatMap RBat.cells) by have := HH.out.tk; rw [Hm.out] at this; exact this).head (by omega)
      obtain ⟨r, hr'⟩ : ∃ r, R.rs[p]? = some r := ⟨_, List.getElem?_eq_getElem (by rw [Hm.out]; exact hpm)⟩
      have ed : wr.cell? ⟨gd, k, none⟩ = some (.int .i64 p) := by rw [Hnx.out.cell (p := ⟨gd, k, none⟩) hgd]; exact hcd k _ (ints_get hp)
      have et : wr.cell? ⟨gt, p * 8 + 2, none⟩ = some (encStr r.b.id) := by rw [Hnx.out.cell (p := ⟨gt, _, none⟩) hgt]; exact hct _ _ (RBat.cell hr' (by omega) rfl)
      have HNext : Hid ((R.ids.take k).map encStr ++ [encStr r.b.id] = (R.ids.take (k + 1)).map encStr) := by
        have hkl : k < R.ids.length := by rw [HL.out]; exact hlt
        have e : R.ids[k] = r.b.id := by
          have : R.ids[k]? = some r.b.id := by simp [Rf.ids, List.getElem?_map, hp, Rf.get hr']
          rw [List.getElem?_eq_getElem hkl] at this
          exact Option.some.inj this
        show _ = _
        rw [List.take_succ_eq_append_getElem hkl, List.map_append, e]
        rfl
      have HEnd : Hid (∀ g5 cap5 (w5 : World), w5.ownsRow w.heap.size 9 1 (.slice (some ⟨g5, 0, none⟩) (k + 1) cap5) (k + 1) ((R.ids.take k).map encStr ++ [encStr r.b.id]) → (wr.alloc (.cells #[encStr r.b.id] 9)).drew.grownBy w5 (Value.slice a k cap).ownBlock →
          (w5.ownsRow w.heap.size 9 1 (.slice (some ⟨g5, 0, none⟩) (k + 1) cap5) (k + 1) ((R.ids.take (k + 1)).map encStr) ∧ Below w.heap.size w w5) ∧ (w5.cell? ⟨g, 13, none⟩ = some (.slice (some ⟨gt, 0, none⟩) m tc) ∧ w5.cell? ⟨g, 14, none⟩ = some (.slice (some ⟨gd, 0, none⟩) n dc) ∧ w5.cell? ⟨gd, k, none⟩ = some (.int .i64 p) ∧ w5.cell? ⟨gt, p * 8 + 2, none⟩ = some (encStr r.b.id))) := fun g5 cap5 w5 a1 a2 => by
        have hB : Below w.heap.size w w5 := ((Hnx.out.alloc (by omega) _).drew).grown a2 (by simp; omega) (fun j hj => (Hr.out.lt j hj).1)
        refine ⟨⟨by rw [← HNext.out]; exact a1, hB⟩, ?_, ?_, ?_, ?_⟩
        · exact (hB.cell (p := ⟨g, 13, none⟩) hgl).trans C13.out
        · exact (hB.cell (p := ⟨g, 14, none⟩) hgl).trans C14.out
        · rw [hB.cell (p := ⟨gd, k, none⟩) hgd]; exact hcd k _ (ints_get hp)
        · rw [hB.cell (p := ⟨gt, _, none⟩) hgt]; exact hct _ _ (RBat.cell hr' (by omega) rfl)
      clear hcd hct hp hr'
      go_upto_region 5 with fail
      go_region_held3 (fun w' => w'.cell? ⟨g, 13, none⟩ = some (.slice (some ⟨gt, 0, none⟩) m tc) ∧ w'.cell? ⟨g, 14, none⟩ = some (.slice (some ⟨gd, 0, none⟩) n dc) ∧ w'.cell? ⟨gd, k, none⟩ = some (.int .i64 p) ∧ w'.cell? ⟨gt, p * 8 + 2, none⟩ = some (encStr r.b.id)) (go_keep)
        (first | (refine step_append_lies _ (by rfl) _ _ _ (by rfl) w.heap.size 9 i0 (.string ⟨#[]⟩) 1 16 Tryz.underlying85 hi hz0 hz1 hz2 rfl (by omega) (.slice a k cap) k _ (by rfl) ((Hr.out.alloc _).drew) ⟨wr.heap.size, 0, none⟩ 1 1 [encStr r.b.id] (by rfl) (by rfl) (World.news_of_block (cs := #[encStr r.b.id]) (t := 9) (fr := (0, 0)) (heap_alloc_new wr _)) (by simp [Value.oneCell', encStr]) (by omega) (by unfold maxLen; omega) (by omega) (by simp; omega) (wr.heap.size + 1) (by simp) ?_; intro g5 cap5 w5 hown5 hg5 hat5 hlt5; have HE5 := hide (HEnd.out g5 cap5 w5 hown5 hg5); obtain ⟨z1, z2, z3, z4⟩ := HE5.out.2; clear hown5 hg5 hat5))
      all_goals
        go_wp2_with fail
        go_roundw
        case rel => exact ⟨k + 1, some ⟨g5, 0, none⟩, cap5, by omega, by go_num, rfl, HE5.out.1.1, HE5.out.1.2⟩
        case measure => simp [intOf]; omega
    · have e : n = k := by omega
      subst e
      go_wp2_with fail
      go_ret
      refine ⟨_, rfl, ?_, Hnx.out⟩
      have := Hr.out
      rw [← HL.out, List.take_of_length_le (Nat.le_refl _)] at this
      rw [HL.out] at this ⊢
      exact this
end Go.Proofs.YtojpjaifhjigfaaGreatDoor
