/- Steps of the proof (several texts in one): CanBe, Redo, Quota, RedoWalk. -/
import Derived.Test.YtojpjaifhjigfaaGreatDoorMAllupto23
import Derived.Test.YtojpjaifhjigfaaGreatDoorMAllupto16
import Derived.Test.YtojpjaifhjigfaaGreatDoorMAllupto04
import Derived.Test.YtojpjaifhjigfaaGreatDoorMAllupto02

/- canBe: whether an event can come next. -/
namespace Go.Proofs.YtojpjaifhjigfaaGreatDoor
open Go.RowKit Go.Maps

/-- Whether an event can come next. -/
def Ag.canBe (M : Ag) (e : Ev) : Bool :=
  if e.kind = 0 then M.misfit e.b == 0 else
  match M.bs[e.pl]? with
  | none => false
  | some b => decide (b.st = 1) && (if e.kind = 1 then decide (b.fl + e.f < M.c.at') else if e.kind = 2 then decide (b.fl + e.f < M.c.at') && decide (0 < e.f) else if e.kind = 3 then decide (b.fl + e.f = M.c.at') else false)

set_option maxRecDepth 100000 in
set_option maxHeartbeats 2000000 in
theorem canBe_take (A : Nat → Addr) (L : Labs) (who g : Nat) (M : Ag) (b : Bat) (w : World) (hS : Sents.Holds w 260 gl 11 A) (hA : AgentAt w L who g M) (hb : M.bs.length ≤ 120) (ht : b.ten.length ≤ maxLen) :
    Calls Tryz.prog 132 #[.pointer (some ⟨g, 0, none⟩), Ev.val ⟨0, b, 0, 0⟩] w fun r w' => r = .returned (.bool (M.misfit b == 0)) ∧ Below w.heap.size w w' := by
  have HM := hide (fun o => misfit_any A L who g M b (w.alloc o) (hS.below ((Below.refl _ _).alloc (Nat.le_refl _) _)) (hA.keep (Step.alloc (p := fun _ => False) L w o) (fun _ h => h)) hb ht)
  have HMis : Hid (M.misfit b = 0 ∨ ∃ k, M.misfit b = k + 1 ∧ errV A (M.misfit b) = ev A k) := by
    by_cases h0 : M.misfit b = 0
    · exact Or.inl h0
    · obtain ⟨k, h1, h2⟩ := errV_pos A h0
      exact Or.inr ⟨k, h1, h2⟩
  generalize M.misfit b = n at *
  unfold Ev.val
  clear hS hA hb ht
  rcases HMis.out with rfl | ⟨k, rfl, hk⟩
  · go_enter Tryz.func132, Tryz.ntmps132
    go_wp2_with fail
    refine (HM.out _).mono ?_
    rintro e w1 ⟨rfl, hb1⟩
    have HB1 : Hid (Below w.heap.size w w1) := ((Below.refl _ _).alloc (Nat.le_refl _) _).trans (hb1.mono (by simp))
    clear hb1
    rw [show errV A 0 = .nilIface from rfl]
    go_wp2_with fail
    go_ret
    exact ⟨rfl, HB1.out⟩
  · go_enter Tryz.func132, Tryz.ntmps132
    go_wp2_with fail
    refine (HM.out _).mono ?_
    rintro e w1 ⟨rfl, hb1⟩
    have HB1 : Hid (Below w.heap.size w w1) := ((Below.refl _ _).alloc (Nat.le_refl _) _).trans (hb1.mono (by simp))
    clear hb1
    rw [hk]
    unfold ev
    go_wp2_with fail
    go_ret
    exact ⟨rfl, HB1.out⟩

set_option maxRecDepth 100000 in
set_option maxHeartbeats 4000000 in
theorem canBe_other (L : Labs) (who g : Nat) (M : Ag) (kd : Nat) (eb : Bat) (pl f : Nat) (w : World) (hA : AgentAt w L who g M) (hk0 : kd ≠ 0) (hk : kd < 256) (hpl : pl < 256) (hf : f < 256) (hfl : ∀ b ∈ M.bs, 0 ≤ b.fl ∧ b.fl ≤ 1000) (hb120 : M.bs.length ≤ 120) :
    Calls Tryz.prog 132 #[.pointer (some ⟨g, 0, none⟩), Ev.val ⟨kd, eb, pl, f⟩] w fun r w' => r = .returned (.bool (M.canBe ⟨kd, eb, pl, f⟩)) ∧ Below w.heap.size w w' := by
  obtain ⟨bq, bm, cn, tv, dv, nv, rv, ov, hA⟩ := hA
  obtain ⟨ta, tc, rfl, _⟩ := hA.tk.shape
  have hgl := hA.blk.1.lt
  have c0 := fun o => ((hA.blk.1.alloc o).cell 0)
  have c7 := fun o => ((hA.blk.1.alloc o).cell 7)
  simp only [agCells] at c0 c7
  have hkI : ¬ ((kd : Int) = 0) := by omega
  have e0 : M.canBe ⟨kd, eb, pl, f⟩ = match M.bs[pl]? with | none => false | some b => decide (b.st = 1) && (if kd = 1 then decide (b.fl + f < M.c.at') else if kd = 2 then decide (b.fl + f < M.c.at') && decide (0 < f) else if kd = 3 then decide (b.fl + f = M.c.at') else false) := by
    unfold Ag.canBe
    rw [if_neg hk0]
  rw [e0]
  clear e0
  unfold Ev.val
  simp only
  have hBW : ∀ o n, Below w.heap.size w ((w.alloc o).drewN n) := fun o n => by
    have h1 : Below w.heap.size w (w.alloc o) := (Below.refl _ _).alloc (Nat.le_refl _) o
    exact ⟨h1.os, h1.tape, h1.output, h1.size, h1.block⟩
  have HBW := hide hBW
  clear hBW
  by_cases hlt : pl < M.bs.length
  · obtain ⟨b, hb⟩ : ∃ b, M.bs[pl]? = some b := ⟨_, List.getElem?_eq_getElem hlt⟩
    obtain ⟨gt, rfl, hgt, _, hct, _⟩ := hA.tk.head (by omega)
    have hk4 : w.cell? ⟨gt, pl * 6 + 4, none⟩ = some (.int .i64 b.st) := hct _ _ (flat_cell Bat.cells 6 Bat.cells_length hb (by omega) rfl)
    have hk5 : w.cell? ⟨gt, pl * 6 + 5, none⟩ = some (.int .i64 b.fl) := hct _ _ (flat_cell Bat.cells 6 Bat.cells_length hb (by omega) rfl)
    have k4 := fun o => (cell?_alloc_old (W := w) o hk4)
    have k5 := fun o => (cell?_alloc_old (W := w) o hk5)
    obtain ⟨b0, b1⟩ := hfl b (List.mem_of_getElem? hb)
    rw [hb]
    simp only
    have hltI : (pl : Int) < (M.bs.length : Int) := by omega
    have hltI2 : ¬ ((M.bs.length : Int) ≤ (pl : Int)) := by omega
    have hdec : decide ((M.bs.length : Int) ≤ (pl : Int)) = false := decide_eq_false hltI2
    generalize M.bs.length = n at *
    generalize M.c.at' = at1 at *
    generalize b.st = st at *
    generalize b.fl = fl at *
    clear hfl hct hb hk4 hk5 hA
    by_cases hst : st = 1
    · subst hst
      have hw : IntKind.i64.wrap (fl + (f : Int)) = fl + f := IntWalk.i64_in _ (by omega)
      have HBW2 : Hid (∀ o n m, Below w.heap.size w (((w.alloc o).drewN n).drewN m)) := fun o n m => by
        have h1 := HBW.out o n
        exact ⟨h1.os, h1.tape, h1.output, h1.size, h1.block⟩
      simp only [decide_true, Bool.true_and]
      by_cases k1 : kd = 1
      · subst k1
        simp only [if_true]
        go_enter Tryz.func132, Tryz.ntmps132
        go_wp2_with fail
        go_quiet (fail)
        go_wp2_with fail
        go_quiet (fail)
        go_wp2_with fail
        go_ret
        exact ⟨by first | rfl | simp, by first | exact HBW.out _ _ | exact HBW2.out _ _ _⟩
      · rw [if_neg k1]
        have k1I : ¬ ((kd : Int) = 1) := by omega
        by_cases k2 : kd = 2
        · subst k2
          simp only [if_true]
          by_cases hl : fl + (f : Int) < at1
          · rw [decide_eq_true hl, Bool.true_and]
            go_enter Tryz.func132, Tryz.ntmps132
            go_wp2_with fail
            go_quiet (fail)
            go_wp2_with fail
            go_quiet (fail)
            go_wp2_with fail
            go_ret
            exact ⟨by first | rfl | simp, by first | exact HBW.out _ _ | exact HBW2.out _ _ _⟩
          · rw [decide_eq_false hl, Bool.false_and]
            go_enter Tryz.func132, Tryz.ntmps132
            go_wp2_with fail
            go_quiet (fail)
            go_wp2_with fail
            go_quiet (fail)
            go_wp2_with fail
            go_ret
            exact ⟨by first | rfl | simp, by first | exact HBW.out _ _ | exact HBW2.out _ _ _⟩
        · rw [if_neg k2]
          have k2I : ¬ ((kd : Int) = 2) := by omega
          by_cases k3 : kd = 3
          · subst k3
            simp only [if_true]
            go_enter Tryz.func132, Tryz.ntmps132
            go_wp2_with fail
            go_quiet (fail)
            go_wp2_with fail
            go_quiet (fail)
            go_wp2_with fail
            go_ret
            exact ⟨by first | rfl | simp, by first | exact HBW.out _ _ | exact HBW2.out _ _ _⟩
          · rw [if_neg k3]
            have k3I : ¬ ((kd : Int) = 3) := by omega
            go_enter Tryz.func132, Tryz.ntmps132
            go_wp2_with fail
            go_quiet (fail)
            go_wp2_with fail
            go_quiet (fail)
            go_wp2_with fail
            go_ret
            exact ⟨by first | rfl | simp, by first | exact HBW.out _ _ | exact HBW2.out _ _ _⟩
    · have hstd : decide (st = 1) = false := decide_eq_false hst
      rw [hstd, Bool.false_and]
      have hstn : (st != 1) = true := by simp [hst]
      go_enter Tryz.func132, Tryz.ntmps132
      go_wp2_with fail
      go_quiet (fail)
      go_wp2_with fail
      go_ret
      exact ⟨rfl, HBW.out _ _⟩
  · have hn : M.bs[pl]? = none := List.getElem?_eq_none (by omega)
    rw [hn]
    simp only
    have hltI : (M.bs.length : Int) ≤ (pl : Int) := by omega
    have hdec : decide ((M.bs.length : Int) ≤ (pl : Int)) = true := decide_eq_true hltI
    generalize M.bs.length = n at *
    clear hfl hA hn
    go_enter Tryz.func132, Tryz.ntmps132
    go_wp2_with fail
    go_quiet (fail)
    go_wp2_with fail
    go_ret
    exact ⟨rfl, HBW.out _ _⟩
end Go.Proofs.YtojpjaifhjigfaaGreatDoor

/- What the events of a log make of an agent. -/
namespace Go.Proofs.YtojpjaifhjigfaaGreatDoor
open Go.RowKit Go.Maps

theorem piece_len (r : Rd) (n : Nat) : (r.piece n).2.rest.length ≤ r.rest.length := by
  unfold Rd.piece
  split
  · simp
  · simp
theorem number_len (r : Rd) : r.number.2.rest.length ≤ r.rest.length := by
  unfold Rd.number
  split
  · simp
  · rename_i x l h
    rw [h]
    simp
theorem text_len (r : Rd) : r.text.2.rest.length ≤ r.rest.length := Nat.le_trans (piece_len _ _) (number_len r)
theorem event_len (x : UInt8) (l : List UInt8) (s : Bool) : (Rd.event ⟨x :: l, s⟩).2.rest.length ≤ l.length := by
  have h0 : (Rd.number ⟨x :: l, s⟩).2.rest.length ≤ l.length := Nat.le_refl _
  unfold Rd.event
  split
  · exact Nat.le_trans (number_len _) (Nat.le_trans (number_len _) h0)
  · exact Nat.le_trans (text_len _) (Nat.le_trans (text_len _) (Nat.le_trans (text_len _) (Nat.le_trans (number_len _) h0)))
theorem piece_le (r : Rd) (n : Nat) : (r.piece n).1.length ≤ n := by
  unfold Rd.piece
  split
  · simp
  · simp; omega
/-- An event as a reader brings it. -/
structure EvForm (e : Ev) : Prop where
  kd : e.kind < 256
  pl : e.pl < 256
  f : e.f < 256
  z : e.kind = 0 → e = ⟨0, e.b, 0, 0⟩
  t : e.b.ten.length ≤ 256
theorem event_form (r : Rd) : EvForm r.event.1 := by
  have a1 := r.number_lt
  have a2 := r.number.2.number_lt
  have a3 := r.number.2.number.2.number_lt
  unfold Rd.event
  split
  · rename_i h
    exact ⟨a1, a2, a3, fun e => absurd e h, by simp [noBat]⟩
  · refine ⟨by simp, by simp, by simp, fun _ => rfl, ?_⟩
    have := piece_le r.number.2.number.2.number.2 r.number.2.number.2.number.1
    exact Nat.le_trans this (Nat.le_of_lt (Rd.number_lt _))

/-- An agent while a log is read. -/
structure RInv (M : Ag) : Prop where
  good : GoodC M.c M.D
  sl : ∀ x ∈ M.ns, 1 ≤ x.length ∧ x.length ≤ 16
  hs : ∀ x, x ∈ M.ns ↔ Maps.has M.D (.string x) = true
  b120 : M.bs.length ≤ 120
  each : ∀ b ∈ M.bs, 0 ≤ b.dst ∧ b.dst < M.c.d ∧ b.ten ∈ M.ns ∧ 1 ≤ b.id.length ∧ b.id.length ≤ 16 ∧ b.body.length ≤ 63 ∧ 0 ≤ b.fl ∧ ((b.st = 1 ∧ b.fl < M.c.at') ∨ (b.st = 2 ∧ b.fl < M.c.at') ∨ (b.st = 3 ∧ b.fl = M.c.at'))
  dead : ∀ p, p ∈ M.dead ↔ ∃ b, M.bs[p]? = some b ∧ b.st = 3
  ddn : M.dead.Nodup
theorem RInv.dead_le {M : Ag} (h : RInv M) : M.dead.length ≤ 120 := by
  refine Nat.le_trans (nodup_le M.bs.length M.dead h.ddn (fun p hp => ?_)) h.b120
  obtain ⟨b, hb, _⟩ := (h.dead p).1 hp
  exact (List.getElem?_eq_some_iff.1 hb).1
theorem misfit_zero {M : Ag} {b : Bat} (h1 : M.misfit b = 0) : destB M b.dst = true ∧ Maps.has M.D (.string b.ten) = true ∧ inB b.id.length 1 16 = true ∧ b.body.length ≤ 63 ∧ findId M.bs b.id = -1 ∧ M.bs.length < 120 := by
  unfold Ag.misfit at h1
  by_cases a1 : destB M b.dst = false
  · rw [if_pos a1] at h1; cases h1
  rw [if_neg a1] at h1
  by_cases a2 : Maps.has M.D (.string b.ten) = false
  · rw [if_pos a2] at h1; cases h1
  rw [if_neg a2] at h1
  by_cases a3 : inB b.id.length 1 16 = false
  · rw [if_pos a3] at h1; cases h1
  rw [if_neg a3] at h1
  by_cases a4 : 63 < b.body.length
  · rw [if_pos a4] at h1; cases h1
  rw [if_neg a4] at h1
  by_cases a5 : findId M.bs b.id ≠ -1
  · rw [if_pos a5] at h1; cases h1
  rw [if_neg a5] at h1
  by_cases a6 : 120 ≤ M.bs.length
  · rw [if_pos a6] at h1; cases h1
  exact ⟨by simpa using a1, by simpa using a2, by simpa using a3, by omega, by simpa using a5, by omega⟩
/-- What canBe says of an event that is no take. -/
theorem canBe_not0 {M : Ag} {e : Ev} (h : M.canBe e = true) (hk : e.kind ≠ 0) : ∃ b, M.bs[e.pl]? = some b ∧ b.st = 1 ∧ ((e.kind = 1 ∧ b.fl + e.f < M.c.at') ∨ (e.kind = 2 ∧ b.fl + e.f < M.c.at' ∧ 0 < e.f) ∨ (e.kind = 3 ∧ b.fl + e.f = M.c.at')) := by
  unfold Ag.canBe at h
  rw [if_neg hk] at h
  cases hb : M.bs[e.pl]? with
  | none => rw [hb] at h; cases h
  | some b =>
    rw [hb] at h
    simp only [Bool.and_eq_true, decide_eq_true_eq] at h
    refine ⟨b, rfl, h.1, ?_⟩
    by_cases k1 : e.kind = 1
    · rw [if_pos k1] at h
      exact Or.inl ⟨k1, by simpa using h.2⟩
    · rw [if_neg k1] at h
      by_cases k2 : e.kind = 2
      · rw [if_pos k2] at h
        simp only [Bool.and_eq_true, decide_eq_true_eq] at h
        exact Or.inr (Or.inl ⟨k2, h.2.1, h.2.2⟩)
      · rw [if_neg k2] at h
        by_cases k3 : e.kind = 3
        · rw [if_pos k3] at h
          exact Or.inr (Or.inr ⟨k3, by simpa using h.2⟩)
        · rw [if_neg k3] at h
          exact absurd h.2 (by simp)
theorem RInv.playOk {M : Ag} {e : Ev} (h : RInv M) (hf : EvForm e) (hc : M.canBe e = true) : PlayOk M e := by
  have hok := Cfg.ok h.good.1
  have hd := hok.d
  have ha := hok.at'
  by_cases hk : e.kind = 0
  · have hz := hf.z hk
    have hm : M.misfit e.b = 0 := by
      unfold Ag.canBe at hc
      rw [if_pos hk] at hc
      simpa using hc
    obtain ⟨r1, r2, r3, r4, r5, r6⟩ := misfit_zero hm
    simp [destB] at r1
    simp [inB] at r3
    refine Or.inl ⟨hk, by rw [hz], by rw [hz], r6, by omega, (h.sl _ ((h.hs _).2 r2)).2, by omega, r4⟩
  · obtain ⟨b, hb, hst, hcs⟩ := canBe_not0 hc hk
    obtain ⟨e1, e2, e3, e4, e5, e6, e7, e8⟩ := h.each b (List.mem_of_getElem? hb)
    refine Or.inr ⟨by rcases hcs with h1 | h1 | h1 <;> omega, h.b120, by have := h.dead_le; omega, b, hb, hst, e7, by omega, by have := hf.f; omega, by omega, (h.sl _ e3).2⟩
theorem RInv.played {M : Ag} {e : Ev} (h : RInv M) (hf : EvForm e) (hc : M.canBe e = true) : RInv (M.played e) := by
  by_cases hk : e.kind = 0
  · have hz := hf.z hk
    have hm : M.misfit e.b = 0 := by
      unfold Ag.canBe at hc
      rw [if_pos hk] at hc
      simpa using hc
    obtain ⟨r1, r2, r3, r4, r5, r6⟩ := misfit_zero hm
    simp [destB] at r1
    simp [inB] at r3
    have hat := (Cfg.ok h.good.1).at'
    unfold Ag.played
    rw [if_pos hk]
    refine ⟨h.good, h.sl, h.hs, by simp; omega, fun b hb => ?_, fun p => ?_, h.ddn⟩
    · rcases List.mem_append.1 (show b ∈ M.bs ++ [e.b.fresh] from hb) with hb | hb
      · exact h.each b hb
      · rw [List.mem_singleton.1 hb]
        refine ⟨by show 0 ≤ e.b.dst; omega, by show e.b.dst < M.c.d; omega, (h.hs _).2 r2, by show 1 ≤ e.b.id.length; omega, by show e.b.id.length ≤ 16; omega, r4, Int.le_refl _, Or.inl ⟨rfl, by show (0 : Int) < M.c.at'; omega⟩⟩
    · rw [show ({ M with bs := M.bs ++ [e.b.fresh] } : Ag).dead = M.dead from rfl, h.dead p]
      constructor
      · rintro ⟨b, h1, h2⟩
        exact ⟨b, by show (M.bs ++ [e.b.fresh])[p]? = some b; rw [List.getElem?_append_left (List.getElem?_eq_some_iff.1 h1).1]; exact h1, h2⟩
      · rintro ⟨b, h1, h2⟩
        have h1' : (M.bs ++ [e.b.fresh])[p]? = some b := h1
        by_cases hp : p < M.bs.length
        · rw [List.getElem?_append_left hp] at h1'
          exact ⟨b, h1', h2⟩
        · rw [List.getElem?_append_right (by omega)] at h1'
          have := List.mem_of_getElem? h1'
          rw [List.mem_singleton.1 this] at h2
          simp [Bat.fresh] at h2
  · obtain ⟨b, hb, hst, hcs⟩ := canBe_not0 hc hk
    obtain ⟨e1, e2, e3, e4, e5, e6, e7, e8⟩ := h.each b (List.mem_of_getElem? hb)
    have hpl := (List.getElem?_eq_some_iff.1 hb).1
    unfold Ag.played
    rw [if_neg hk, modify_set M.bs e.pl (fun b => b.ended e.kind e.f) b hb]
    refine ⟨h.good, h.sl, h.hs, by simp; exact h.b120, fun x hx => ?_, fun p => ?_, ?_⟩
    · rcases List.mem_or_eq_of_mem_set (show x ∈ M.bs.set e.pl (b.ended e.kind e.f) from hx) with hx | rfl
      · exact h.each x hx
      · refine ⟨e1, e2, e3, e4, e5, e6, by show 0 ≤ b.fl + (e.f : Int); omega, ?_⟩
        rcases hcs with ⟨k, q⟩ | ⟨k, q, _⟩ | ⟨k, q⟩
        · exact Or.inr (Or.inl ⟨by simp [Bat.ended, k], q⟩)
        · exact Or.inl ⟨by simp [Bat.ended, k, hst], q⟩
        · exact Or.inr (Or.inr ⟨by simp [Bat.ended, k], q⟩)
    · show p ∈ (if e.kind = 3 then M.dead ++ [e.pl] else M.dead) ↔ ∃ x, (M.bs.set e.pl (b.ended e.kind e.f))[p]? = some x ∧ x.st = 3
      by_cases hp : p = e.pl
      · subst hp
        rw [List.getElem?_set_self hpl]
        rcases hcs with ⟨k, q⟩ | ⟨k, q, _⟩ | ⟨k, q⟩
        · rw [if_neg (by omega)]
          refine ⟨fun hd => ?_, fun ⟨x, h1, h2⟩ => ?_⟩
          · obtain ⟨x, h1, h2⟩ := (h.dead _).1 hd
            rw [hb] at h1
            cases h1
            omega
          · cases h1
            simp [Bat.ended, k] at h2
        · rw [if_neg (by omega)]
          refine ⟨fun hd => ?_, fun ⟨x, h1, h2⟩ => ?_⟩
          · obtain ⟨x, h1, h2⟩ := (h.dead _).1 hd
            rw [hb] at h1
            cases h1
            omega
          · cases h1
            simp [Bat.ended, k, hst] at h2
        · rw [if_pos k]
          exact ⟨fun _ => ⟨_, rfl, by simp [Bat.ended, k]⟩, fun _ => by simp⟩
      · rw [List.getElem?_set_ne (fun e => hp e.symm), ← h.dead p]
        split
        · simp [hp]
        · exact Iff.rfl
    · show (if e.kind = 3 then M.dead ++ [e.pl] else M.dead).Nodup
      split
      · refine List.nodup_append.2 ⟨h.ddn, by simp, fun a ha c hc' => ?_⟩
        rw [List.mem_singleton.1 hc']
        intro e'
        subst e'
        obtain ⟨x, h1, h2⟩ := (h.dead _).1 ha
        rw [hb] at h1
        cases h1
        omega
      · exact h.ddn

/-- All that one record tells, one event behind the other; none: it can't be. -/
def redoF : Nat → Ag → List UInt8 → Option Ag
  | 0, M, rest => if rest = [] then some M else none
  | n + 1, M, rest => if rest = [] then some M else if (Rd.event ⟨rest, false⟩).2.short || !M.canBe (Rd.event ⟨rest, false⟩).1 then none else redoF n (M.played (Rd.event ⟨rest, false⟩).1) (Rd.event ⟨rest, false⟩).2.rest
theorem redoF_nil (n : Nat) (M : Ag) : redoF n M [] = some M := by cases n <;> rfl
theorem redoF_fuel : ∀ (n m : Nat) (M : Ag) (rest : List UInt8), rest.length ≤ n → rest.length ≤ m → redoF n M rest = redoF m M rest
  | 0, m, M, rest, h1, _ => by
    have : rest = [] := by simpa using h1
    subst this
    rw [redoF_nil, redoF_nil]
  | n + 1, 0, M, rest, _, h2 => by
    have : rest = [] := by simpa using h2
    subst this
    rw [redoF_nil, redoF_nil]
  | n + 1, m + 1, M, [], _, _ => by rw [redoF_nil, redoF_nil]
  | n + 1, m + 1, M, x :: l, h1, h2 => by
    have hl := event_len x l false
    simp only [List.length_cons] at h1 h2
    unfold redoF
    rw [redoF_fuel n m _ _ (by omega) (by omega)]
def Ag.redo (M : Ag) (told : List UInt8) : Option Ag := redoF told.length M told
theorem redo_cons (M : Ag) (x : UInt8) (l : List UInt8) : M.redo (x :: l) = if (Rd.event ⟨x :: l, false⟩).2.short || !M.canBe (Rd.event ⟨x :: l, false⟩).1 then none else (M.played (Rd.event ⟨x :: l, false⟩).1).redo (Rd.event ⟨x :: l, false⟩).2.rest := by
  have hl := event_len x l false
  have e : M.redo (x :: l) = if (x :: l) = [] then some M else if (Rd.event ⟨x :: l, false⟩).2.short || !M.canBe (Rd.event ⟨x :: l, false⟩).1 then none else redoF l.length (M.played (Rd.event ⟨x :: l, false⟩).1) (Rd.event ⟨x :: l, false⟩).2.rest := rfl
  rw [e, if_neg (by simp)]
  split
  · rfl
  · exact redoF_fuel _ _ _ _ hl (Nat.le_refl _)
theorem canBe_any (A : Nat → Addr) (L : Labs) (who g : Nat) (M : Ag) (e : Ev) (w : World) (hS : Sents.Holds w 260 gl 11 A) (hA : AgentAt w L who g M) (h : RInv M) (hf : EvForm e) :
    Calls Tryz.prog 132 #[.pointer (some ⟨g, 0, none⟩), e.val] w fun r w' => r = .returned (.bool (M.canBe e)) ∧ Below w.heap.size w w' := by
  have ha := (Cfg.ok h.good.1).at'
  by_cases hk : e.kind = 0
  · have hz := hf.z hk
    have e1 : M.canBe e = (M.misfit e.b == 0) := by unfold Ag.canBe; rw [if_pos hk]
    rw [e1, hz]
    exact canBe_take A L who g M e.b w hS hA h.b120 (by have := hf.t; unfold maxLen; omega)
  · obtain ⟨kd, eb, pl, f⟩ := e
    exact canBe_other L who g M kd eb pl f w hA hk hf.kd hf.pl hf.f (fun b hb => by have := (h.each b hb).2.2.2.2.2.2; omega) h.b120
end Go.Proofs.YtojpjaifhjigfaaGreatDoor

/- keepsQuota: nobody has too many waiting. -/
namespace Go.Proofs.YtojpjaifhjigfaaGreatDoor
open Go.RowKit Go.Maps

/-- What was seen of a map of counts is not too much. -/
def SeenQ (q : Int) (D : DataW Unit) (left : Lit → Bool) : Prop := ∀ x c, At D x c → left (.string x) = false → c ≤ q
theorem SeenQ.start (q : Int) (D : DataW Unit) : SeenQ q D (Maps.has D) := fun x c h hl => by rw [h.has] at hl; cases hl
theorem SeenQ.step {q : Int} {D : DataW Unit} {left : Lit → Bool} (h : SeenQ q D left) {x : List UInt8} {c : Int} (hat : At D x c) (hok : c ≤ q) : SeenQ q D (fun z => left z && !z.sameKey (.string x)) := by
  intro x' c' h' hl
  simp only [Bool.and_eq_false_iff, Bool.not_eq_false'] at hl
  rcases hl with hl | hl
  · exact h x' c' h' hl
  · have e : x' = x := by simpa [Lit.sameKey] using hl
    subst e
    rw [h'.eq hat]; exact hok
/-- Nobody has more waiting than the quota says. -/
def Ag.QuotaOk (M : Ag) : Prop := ∀ x : List UInt8, x.length ≤ maxLen → (waits M.bs x : Int) ≤ M.c.q

set_option maxHeartbeats 1000000 in
theorem keepsQuota_any (L : Labs) (who g : Nat) (M : Ag) (w : World) (hA : AgentAt w L who g M) (hb : M.bs.length ≤ 120) (hq : 0 ≤ M.c.q) :
    Calls Tryz.prog 133 #[.pointer (some ⟨g, 0, none⟩)] w fun e w' => BoolIff e M.QuotaOk ∧ Below w.heap.size w w' := by
  have HW := hide (pWaiting_any L who g M w hA hb)
  obtain ⟨bq, bm, cn, tv, dv, nv, rv, ov, hA⟩ := hA
  have hgl := hA.blk.1.lt
  have c6 : w.cell? ⟨g, 6, none⟩ = some (.int .i64 M.c.q) := hA.blk.1.cell 6
  have HC6 := hide c6
  unfold NewCounts at HW
  clear hA c6 hb
  generalize hP : M.QuotaOk = P
  have HP : Hid (M.QuotaOk = P) := hP
  clear hP
  generalize hqe : M.c.q = q at *
  have HQe := hide hqe
  clear hqe
  go_enter Tryz.func133, Tryz.ntmps133
  go_wp2_with fail
  refine HW.out.mono ?_
  rintro e w1 ⟨b, n, D, rfl, hbge, hown1, hn, hC, hB1⟩
  have HCt := hide hC
  have HB1 := hide hB1
  have HO1 := hide hown1
  clear hC hB1
  go_wp2_with (first
    | (at_range; refine wpList_range_own _ rfl _ 22 rfl 9 3 lawS Tryz.underlying22 _ b n _ rfl hown1 ?_; intro w0 hrg0 hg0 hs0)
    | fail)
  go_frame
  have hB0 : Below w.heap.size w w0 := HB1.out.grown hg0 HB1.out.size (fun j hj => by cases hj)
  have HB0 := hide hB0
  have hr : w.heap.size ≤ w1.heap.size := HB1.out.size
  clear hB0 hs0 hg0 hown1
  go_loopw [4] (fun _ wr => ∃ (left : Lit → Bool) (cnt : Nat), RG wr b w1.heap.size n D left cnt ∧ SeenQ q D left ∧ Below w.heap.size w wr) (fun _ wr => wr.rangeLeft b w1.heap.size)
  case atStart => exact ⟨_, _, hrg0, SeenQ.start _ D, HB0.out⟩
  case round =>
    obtain ⟨left, cnt, hrg, hseen, hnx⟩ := hrel
    have Hseen := hide hseen
    have Hnx := hide hnx
    clear hseen hnx
    go_wp2_with (first
      | (at_next; refine wpList_next_ranges _ rfl _ rfl 9 lawS (plainElem Tryz.prog 3) encStr (Value.int .i64) invK invV b w1.heap.size n _ _ _ rfl hrg ?_ ?_)
      | fail)
    · intro hc0 hl0
      have hok : M.QuotaOk := fun x hx => by
        rw [HQe.out]
        rcases Nat.eq_zero_or_pos (waits M.bs x) with h0 | h0
        · rw [h0]; exact hq
        · exact Hseen.out x _ ((HCt.out x hx).1 h0) (hl0 _)
      rw [HP.out] at hok
      have HG := hide hok
      clear hok hl0
      go_wp2_with fail
      go_ret
      exact ⟨BoolIff.yes HG.out, Hnx.out⟩
    · intro x c kl yd yp w2 cnt2 hkey hlk hv hat hrg2 hlt hg2 hs2 hen
      obtain ⟨x', ex, rfl, hxl⟩ := Maps.keyOf_str Tryz.underlying9 hkey
      obtain rfl : x = x' := encStr_inj ex
      obtain ⟨c', ec, ey, _⟩ := plainElem_int_inv Tryz.underlying3 hv
      obtain rfl : c = c' := by simpa using ec
      obtain ⟨rfl, rfl⟩ : yd = .lit (.int .i64 c) ∧ yp = [] := by simpa using ey
      have hAt : At D x c := hat
      have HAt := hide hAt
      have Hlt := hide hlt
      have hb2 : Below w.heap.size w w2 := Hnx.out.grown hg2 Hnx.out.size (fun j hj => by cases hj; exact hr)
      have Hb2 := hide hb2
      have c6 : w2.cell? ⟨g, 6, none⟩ = some (.int .i64 q) := (hb2.cell (p := ⟨g, 6, none⟩) hgl).trans HC6.out
      have hcw : c = (waits M.bs x : Int) := HCt.out.look hxl (hAt _)
      have Hcw := hide hcw
      have Hxl := hide hxl
      have Hrg2 := hide hrg2
      clear hAt hat hkey hlk hv ex ec ey hs2 hlt hg2 hb2 hcw hxl
      have HQn : Hid (q < c → ¬ P) := fun hgt hp => by rw [← HP.out] at hp; have h1 := hp x Hxl.out; rw [HQe.out] at h1; have := Hcw.out; omega
      by_cases hle : c ≤ q
      · have hgt : ¬ (q < c) := by omega
        go_wp2_with fail
        go_roundw
        case rel => exact ⟨_, cnt2, Hrg2.out, Hseen.out.step HAt.out hle, Hb2.out⟩
        case measure => rw [Hrg2.out.left_eq, hrg.left_eq]; exact Hlt.out
      · have hgt : q < c := by omega
        have hng : ¬ P := HQn.out hgt
        have HN := hide hng
        clear hng
        go_wp2_with fail
        go_ret
        exact ⟨BoolIff.no HN.out, Hb2.out⟩
end Go.Proofs.YtojpjaifhjigfaaGreatDoor

/- redo: what one record tells is done. -/
namespace Go.Proofs.YtojpjaifhjigfaaGreatDoor
open Go.RowKit Go.Maps

/-- A change of a block that was not there. -/
theorem Step.upon {p : Lab → Prop} {L L1 L2 : Labs} {w wr w2 : World} {gr : Nat} (h : Step p L w L1 wr) (hg : wr.grownBy w2 (some gr)) (hge : w.heap.size ≤ gr) (hl : ∀ k, k < w.heap.size → L2 k = L1 k) : Step p L w L2 w2 :=
  ⟨hg.os.trans h.os, hg.tape.trans h.tape, hg.output.trans h.output, Nat.le_trans h.size hg.size, fun k hk => (hl k hk).trans (h.lab k hk), fun k hk hn => (hg.block k (Nat.lt_of_lt_of_le hk h.size) (fun e => by cases e; omega)).trans (h.block k hk hn)⟩
/-- What redo brings. -/
def Redid (w : World) (L : Labs) (who g : Nat) (M : Ag) (told : List UInt8) (e : Ending) (w' : World) : Prop :=
  (M.redo told = none → e = .returned (.bool false) ∧ ∃ M', Turned w L who g M' w') ∧ (∀ M', M.redo told = some M' → BoolIff e (told ≠ [] ∧ M'.QuotaOk) ∧ Turned w L who g M' w')

set_option maxRecDepth 100000 in
set_option maxHeartbeats 4000000 in
theorem redo_any (A : Nat → Addr) (L : Labs) (who g : Nat) (M : Ag) (told : List UInt8) (w : World) (hE : ErrsAt w L A) (hA : AgentAt w L who g M) (h : RInv M) :
    Calls Tryz.prog 105 #[.pointer (some ⟨g, 0, none⟩), encStr told] w fun e w' => Redid w L who g M told e w' := by
  have HE := hide hE
  have HA := hide hA
  have H := hide h
  have hn : ¬ ofP who none := fun ⟨q, e⟩ => by cases e
  clear hE hA h
  go_enter Tryz.func105, Tryz.ntmps105
  go_wp2_with fail
  go_loopg [5] told.length (fun m s5 wr => ∃ (gr : Nat) (rest : List UInt8) (Mc : Ag) (L1 : Labs), m = rest.length ∧ s5 = .pointer (some ⟨gr, 0, none⟩) ∧ w.heap.size ≤ gr ∧ BlkAt wr L1 none gr (Rd.cells ⟨rest, false⟩) 182 ∧ AgentAt wr L1 who g Mc ∧ RInv Mc ∧ Mc.redo rest = M.redo told ∧ Step (ofP who) L w L1 wr)
  case atStart =>
    refine ⟨w.heap.size, told, M, clip L w.heap.size, rfl, rfl, Nat.le_refl _, ⟨Blk.new w _ _, clip_none L (Nat.le_refl _)⟩, ?_, H.out, rfl, (Step.clipped L w).trans (Step.alloc _ w _)⟩
    exact HA.out.keep ((Step.clipped (p := fun _ => False) L w).trans (Step.alloc _ w _)) (fun _ h => h)
  case round =>
    obtain ⟨gr, rest, Mc, L1, rfl, rfl, hge, hR, hA1, hI, hred, hS1⟩ := hrel
    have c0 : wr.cell? ⟨gr, 0, none⟩ = some (encStr rest) := hR.1.cell 0
    have HR := hide hR
    have HA1 := hide hA1
    have HI := hide hI
    have Hred := hide hred
    have HS1 := hide hS1
    clear hR hA1 hI hred hS1
    cases rest with
    | nil =>
      have hsome : M.redo told = some Mc := by rw [← Hred.out]; rfl
      have HK := hide (keepsQuota_any L1 who g Mc wr HA1.out HI.out.b120 (by have := (Cfg.ok HI.out.good.1).q; omega))
      have Hfin : Hid (∀ e w', BoolIff e (told ≠ [] ∧ Mc.QuotaOk) → Turned w L who g Mc w' → Redid w L who g M told e w') := fun e w' h1 h2 => by
        refine ⟨fun hn => ?_, fun M' hM' => ?_⟩
        · rw [hsome] at hn; cases hn
        · rw [hsome] at hM'; cases hM'; exact ⟨h1, h2⟩
      clear hsome
      cases told with
      | nil =>
        clear HK
        go_wp2_with fail
        go_ret
        exact Hfin.out _ _ (BoolIff.no (fun h => h.1 rfl)) ⟨L1, HA1.out, HS1.out⟩
      | cons y m =>
        go_wp2_with fail
        refine HK.out.mono ?_
        rintro e w2 ⟨⟨r, rfl, hr⟩, hb2⟩
        have Hr := hide hr
        have HB2 := hide hb2
        clear hr hb2
        go_wp2_with fail
        go_ret
        refine Hfin.out _ _ ⟨r, rfl, ?_⟩ ⟨L1, HA1.out.keep (Step.of_below (p := fun _ => False) HB2.out) (fun _ h => h), HS1.out.trans (Step.of_below HB2.out)⟩
        rw [Hr.out]
        exact ⟨fun h => ⟨by simp, h⟩, fun h => h.2⟩
    | cons x l =>
      have HEv := hide (rdEvent_any gr ⟨x :: l, false⟩ wr HR.out.1)
      have hform := event_form ⟨x :: l, false⟩
      have hlen := event_len x l false
      have hcons := redo_cons Mc x l
      rw [Hred.out] at hcons
      generalize (Rd.event ⟨x :: l, false⟩) = er at *
      obtain ⟨ev, rd⟩ := er
      simp only at HEv hform hlen hcons
      unfold Ev.val at HEv
      have Hform := hide hform
      have Hcons := hide hcons
      have hgrl : gr < wr.heap.size := HR.out.1.lt
      clear hform hcons
      go_wp2_with fail
      refine HEv.out.mono ?_
      rintro e w2 ⟨rfl, hR2, hg2⟩
      have hS2 : Step (fun q => q = none) L1 wr (clip L1 wr.heap.size) w2 := (Step.clipped L1 wr).trans (Step.of_grown hg2 (fun j hj => by cases hj; rw [clip, if_pos hgrl]; exact HR.out.2) (fun _ _ => rfl))
      have hA2 : AgentAt w2 (clip L1 wr.heap.size) who g Mc := HA1.out.keep hS2 (fun q h => by cases h)
      have hL2 : clip L1 wr.heap.size gr = none := by rw [clip, if_pos hgrl]; exact HR.out.2
      have hSw : Step (ofP who) L w (clip L1 wr.heap.size) w2 := HS1.out.upon hg2 hge (fun k hk => by rw [clip, if_pos (Nat.lt_of_lt_of_le hk HS1.out.size)])
      have hLn : ∀ k, w2.heap.size ≤ k → clip L1 wr.heap.size k = none := fun k hk => clip_none L1 (Nat.le_trans hg2.size hk)
      generalize clip L1 wr.heap.size = L2 at *
      have HA2 := hide hA2
      have HR2 : Hid (BlkAt w2 L2 none gr rd.cells 182) := ⟨hR2, hL2⟩
      have HSw := hide hSw
      have HLn := hide hLn
      clear hA2 hR2 hL2 hSw hLn hS2 hg2 HEv HA1 HS1 HR c0 hgrl
      obtain ⟨rest2, short⟩ := rd
      have hz2 : w.heap.size ≤ w2.heap.size := HSw.out.size
      have d1 : w2.cell? ⟨gr, 1, none⟩ = some (.bool short) := HR2.out.1.cell 1
      have hg2l : gr < w2.heap.size := HR2.out.1.lt
      cases hsh : short
      · subst hsh
        go_wp2_with fail
        generalize hW3 : World.alloc w2 _ = W3
        have hb3 : Below w2.heap.size w2 W3 := by rw [← hW3]; exact (Below.refl _ _).alloc (Nat.le_refl _) _
        have hV3 : BlkAt W3 L2 none w2.heap.size ev.cells.toArray 151 := by rw [← hW3]; exact ⟨Blk.new w2 _ _, HLn.out _ (Nat.le_refl _)⟩
        have hR3 : BlkAt W3 L2 none gr (Rd.cells ⟨rest2, false⟩) 182 := HR2.out.keep (Step.of_below (p := fun _ => False) hb3) (fun h => h)
        have hA3 := HA2.out.keep (Step.of_below (p := fun _ => False) (L := L2) hb3) (fun _ h => h)
        have hS3 : Step (ofP who) L w L2 W3 := HSw.out.trans (Step.of_below hb3)
        have HV3 := hide hV3
        have HR3 := hide hR3
        have HA3 := hide hA3
        have HS3 := hide hS3
        clear hW3 hb3 hV3 hR3 hA3 hS3 HR2 HA2 HSw HLn d1
        generalize w2.heap.size = ge at *
        have HCan := hide (canBe_any A L2 who g Mc ev W3 (HE.out.keep HS3.out hn).hs HA3.out HI.out Hform.out)
        unfold Ev.val at HCan
        refine HCan.out.mono ?_
        rintro e w4 ⟨rfl, hb4⟩
        have hS4 : Step (fun _ => False) L2 W3 L2 w4 := Step.of_below hb4
        have HV4 := hide (HV3.out.keep hS4 (fun h => h))
        have HR4 := hide (HR3.out.keep hS4 (fun h => h))
        have HA4 := hide (HA3.out.keep hS4 (fun _ h => h))
        have HS4 : Hid (Step (ofP who) L w L2 w4) := HS3.out.trans (Step.of_below hb4)
        clear hb4 hS4 HCan HV3 HR3 HA3 HS3
        cases hcb : Mc.canBe ev
        · have HN : Hid (M.redo told = none) := by rw [Hcons.out, hcb]; rfl
          clear hcb
          go_wp2_with fail
          go_ret
          exact ⟨fun _ => ⟨rfl, Mc, L2, HA4.out, HS4.out⟩, fun M' hM' => by rw [HN.out] at hM'; cases hM'⟩
        · have HN : Hid ((Mc.played ev).redo rest2 = M.redo told) := by rw [Hcons.out, hcb]; rfl
          have HPl := hide (play_any L2 who g Mc ev)
          have HOk := hide (HI.out.playOk Hform.out hcb)
          have HI5 := hide (HI.out.played Hform.out hcb)
          unfold Ev.val at HPl
          clear hcb
          have e0 : w4.cell? ⟨ge, 0, none⟩ = some (.int .i64 ev.kind) := HV4.out.1.cell 0
          have e1 : w4.cell? ⟨ge, 1, none⟩ = some (.int .i64 ev.b.dst) := HV4.out.1.cell 1
          have e2 : w4.cell? ⟨ge, 2, none⟩ = some (encStr ev.b.ten) := HV4.out.1.cell 2
          have e3 : w4.cell? ⟨ge, 3, none⟩ = some (encStr ev.b.id) := HV4.out.1.cell 3
          have e4 : w4.cell? ⟨ge, 4, none⟩ = some (encStr ev.b.body) := HV4.out.1.cell 4
          have e5 : w4.cell? ⟨ge, 5, none⟩ = some (.int .i64 ev.pl) := HV4.out.1.cell 5
          have e6 : w4.cell? ⟨ge, 6, none⟩ = some (.int .i64 ev.f) := HV4.out.1.cell 6
          go_wp2_with fail
          have HFin : Hid (∀ w5, Turned w4.drew L2 who g (Mc.played ev) w5 → ∃ L5, AgentAt w5 L5 who g (Mc.played ev) ∧ BlkAt w5 L5 none gr (Rd.cells ⟨rest2, false⟩) 182 ∧ Step (ofP who) L w L5 w5) := fun w5 ⟨L5, q1, q2⟩ => by
            have q3 : Step (ofP who) L2 w4 L5 w5 := (Step.drew L2 w4).trans q2
            exact ⟨L5, q1, HR4.out.keep q3 hn, HS4.out.trans q3⟩
          go_region_with ((go_at_call 109; refine (HPl.out _ (HA4.out.keep (Step.drew (p := fun _ => False) L2 w4) (fun _ h => h)) HOk.out).mono ?_; rintro e w5 ⟨rfl, hT5⟩; obtain ⟨L5, hA5, hR5, hS5⟩ := HFin.out w5 hT5; have k0 : w5.cell? ⟨gr, 0, none⟩ = some (encStr rest2) := hR5.1.cell 0; have k1 : w5.cell? ⟨gr, 1, none⟩ = some (.bool false) := hR5.1.cell 1; have HA5 := hide hA5; have HS5 := hide hS5; clear hA5 hS5 hR5 hT5))
          all_goals
            go_wp2_with fail
            go_roundg (rest2.length)
            case measure => simp at hlen ⊢; omega
            case rel =>
              have hz : w.heap.size ≤ w5.heap.size := HS5.out.size
              refine ⟨w5.heap.size, rest2, Mc.played ev, clip L5 w5.heap.size, rfl, rfl, hz, ⟨Blk.new w5 _ _, clip_none L5 (Nat.le_refl _)⟩, ?_, HI5.out, HN.out, HS5.out.trans ((Step.clipped L5 w5).trans (Step.alloc _ w5 _))⟩
              exact HA5.out.keep ((Step.clipped (p := fun _ => False) L5 w5).trans (Step.alloc _ w5 _)) (fun _ h => h)
      · subst hsh
        have HN : Hid (M.redo told = none) := by rw [Hcons.out]; rfl
        go_wp2_with fail
        go_ret
        exact ⟨fun _ => ⟨rfl, Mc, L2, HA2.out.keep (Step.alloc (p := fun _ => False) L2 w2 _) (fun _ h => h), HSw.out.trans (Step.alloc L2 w2 _)⟩, fun M' hM' => by rw [HN.out] at hM'; cases hM'⟩
end Go.Proofs.YtojpjaifhjigfaaGreatDoor
