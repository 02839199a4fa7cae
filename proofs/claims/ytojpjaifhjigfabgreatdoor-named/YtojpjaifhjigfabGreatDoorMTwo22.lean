/- Steps of the proof (several texts in one): FairRun, FairGo, FairOver, FairStart, Big, RunKeep. -/
import Derived.Test.YtojpjaifhjigfabGreatDoorMTwo21
import Derived.Test.YtojpjaifhjigfabGreatDoorMTwo14
import Derived.Test.YtojpjaifhjigfabGreatDoorMTwo20

/- Fair: whose batch stands first. -/
namespace Go.Proofs.YtojpjaifhjigfabGreatDoor
open Go.RowKit Go.Maps

theorem head_filter {P : Nat → Bool} : ∀ {T p : Nat} {ps : List Nat}, (List.range T).filter P = p :: ps → P p = true ∧ p < T ∧ ∀ j, j < p → P j = false := by
  intro T p ps h
  have hm : p ∈ (List.range T).filter P := by rw [h]; simp
  obtain ⟨h1, h2⟩ := List.mem_filter.1 hm
  refine ⟨h2, List.mem_range.1 h1, fun j hj => ?_⟩
  cases e : P j with
  | false => rfl
  | true =>
    have hjm : j ∈ (List.range T).filter P := List.mem_filter.2 ⟨List.mem_range.2 (by have := List.mem_range.1 h1; omega), e⟩
    have hs : ((List.range T).filter P).Pairwise (· < ·) := List.Pairwise.filter _ List.pairwise_lt_range
    rw [h] at hs hjm
    rcases List.mem_cons.1 hjm with h3 | h3
    · omega
    · have := (List.pairwise_cons.1 hs).1 j h3
      omega

/-- The batches, of which each tenant's first ones are acked. -/
def fnow (szs : List Int) (N : Nat) (gone : Nat → Nat) (i : Nat) : Bat := if i / N < gone (i % N) then (fbat szs N i).ended 1 0 else fbat szs N i
theorem kn_inj {a b : Nat} (ha : a < 4) (hb : b < 4) (h : kn.getD a [] = kn.getD b []) : a = b := by
  rcases (by omega : a = 0 ∨ a = 1 ∨ a = 2 ∨ a = 3) with rfl | rfl | rfl | rfl <;> rcases (by omega : b = 0 ∨ b = 1 ∨ b = 2 ∨ b = 3) with rfl | rfl | rfl | rfl <;> first | rfl | simp [kn] at h

theorem isP_fnow {szs : List Int} {N T : Nat} {gone : Nat → Nat} (hN : 0 < N) (hN4 : N ≤ 4) {t : Nat} (ht : t < N) {i : Nat} (hi : i < T) : isP ((List.range T).map (fnow szs N gone)) (0 : Nat) (kn.getD t []) i = (decide (i % N = t) && decide (gone t ≤ i / N)) := by
  have hm := Nat.mod_lt i hN
  have e : ((List.range T).map (fnow szs N gone))[i]? = some (fnow szs N gone i) := by simp [hi]
  unfold isP
  rw [e]
  have d0 : (fnow szs N gone i).dst = 0 := by unfold fnow; split <;> rfl
  have dt : (fnow szs N gone i).ten = kn.getD (i % N) [] := by unfold fnow; split <;> rfl
  have ds : (fnow szs N gone i).st = 1 ↔ gone (i % N) ≤ i / N := by
    unfold fnow
    split
    · rename_i hlt
      simp [Bat.ended]
      omega
    · rename_i hlt
      simp [fbat]
      omega
  simp only [d0, dt]
  by_cases e1 : i % N = t
  · subst e1
    by_cases e2 : gone (i % N) ≤ i / N
    · simp [ds.2 e2, e2]
    · have : ¬ (fnow szs N gone i).st = 1 := fun hh => e2 (ds.1 hh)
      simp [this, e2]
  · have : ¬ kn.getD (i % N) [] = kn.getD t [] := fun hh => e1 (kn_inj (by omega) (by omega) hh)
    rw [decide_eq_false this, decide_eq_false e1]
    simp

/-- Whose turn it is: its next one stands first. -/
theorem fnow_head {szs : List Int} {N T : Nat} {gone : Nat → Nat} (hN : 0 < N) (hN4 : N ≤ 4) {t : Nat} (ht : t < N) (hT : t + N * gone t < T) : ∃ ps, pend ((List.range T).map (fnow szs N gone)) (0 : Nat) (kn.getD t []) = (t + N * gone t) :: ps := by
  rw [pend_range]
  simp only [List.length_map, List.length_range]
  have hmod : (t + N * gone t) % N = t := by rw [Nat.add_mul_mod_self_left]; exact Nat.mod_eq_of_lt ht
  have hdiv : (t + N * gone t) / N = gone t := by rw [Nat.add_mul_div_left _ _ hN, Nat.div_eq_of_lt ht]; omega
  have hP : isP ((List.range T).map (fnow szs N gone)) (0 : Nat) (kn.getD t []) (t + N * gone t) = true := by
    rw [isP_fnow hN hN4 ht hT, hmod, hdiv]
    simp
  cases hf : (List.range T).filter (isP ((List.range T).map (fnow szs N gone)) (0 : Nat) (kn.getD t [])) with
  | nil =>
    have : t + N * gone t ∈ (List.range T).filter (isP ((List.range T).map (fnow szs N gone)) (0 : Nat) (kn.getD t [])) := List.mem_filter.2 ⟨List.mem_range.2 hT, hP⟩
    rw [hf] at this
    cases this
  | cons p ps =>
    obtain ⟨h1, h2, h3⟩ := head_filter hf
    rw [isP_fnow hN hN4 ht h2, Bool.and_eq_true, decide_eq_true_eq, decide_eq_true_eq] at h1
    have hge : t + N * gone t ≤ p := by
      have := Nat.div_add_mod p N
      have := Nat.mul_le_mul_left N h1.2
      omega
    have hle : ¬ t + N * gone t < p := fun hh => by
      have := h3 _ hh
      rw [hP] at this
      cases this
    have : p = t + N * gone t := by omega
    subst this
    exact ⟨ps, rfl⟩
end Go.Proofs.YtojpjaifhjigfabGreatDoor

/- Fair: one tick, one good answer. -/
namespace Go.Proofs.YtojpjaifhjigfabGreatDoor
open Go.RowKit Go.Maps

/-- An agent of which gone t of each tenant's batches are acked. -/
structure FRun (szs : List Int) (N T : Nat) (gone : Nat → Nat) (by' : Nat → Int) (M : Ag) (o : Out) : Prop where
  bs : M.bs = (List.range T).map (fnow szs N gone)
  ho : M.os[0]? = some o
  wy : ∀ (d : Nat) o', M.os[d]? = some o' → o'.way = -1
  ns : M.ns = kn.take N
  rt : ∀ r ∈ M.rt, r.fr ≤ 0
  bal : Bal N M.quanta by' (o.turn, o.cr)
  tr : o.trip = false
  fl : o.fl = 0

theorem fnow_dst (szs : List Int) (N : Nat) (gone : Nat → Nat) (i : Nat) : (fnow szs N gone i).dst = 0 := by unfold fnow; split <;> rfl
theorem fnow_id (szs : List Int) (N : Nat) (gone : Nat → Nat) (i : Nat) : (fnow szs N gone i).id = kid i := by unfold fnow; split <;> rfl
theorem fnow_body (szs : List Int) (N : Nat) (gone : Nat → Nat) (i : Nat) : (fnow szs N gone i).body = kbody (pickN (szs.getD i 0) 64) := by unfold fnow; split <;> rfl

theorem FRun.dst {szs : List Int} {N T : Nat} {gone : Nat → Nat} {by' : Nat → Int} {M : Ag} {o : Out} (h : FRun szs N T gone by' M o) : ∀ b ∈ M.bs, b.dst = 0 := fun b hb => by
  rw [h.bs] at hb
  obtain ⟨i, _, rfl⟩ := List.mem_map.1 hb
  exact fnow_dst _ _ _ _
theorem FRun.at {szs : List Int} {N T : Nat} {gone : Nat → Nat} {by' : Nat → Int} {M : Ag} {o : Out} (h : FRun szs N T gone by' M o) {i : Nat} (hi : i < T) : M.bs[i]? = some (fnow szs N gone i) := by
  rw [h.bs]
  simp [hi]
theorem FRun.size {szs : List Int} {N T : Nat} {gone : Nat → Nat} {by' : Nat → Int} {M : Ag} {o : Out} {u : Nat} (h : FRun szs N T gone by' M o) (hi : Inv M u) (hN : 0 < N) (hN4 : N ≤ 4) {t : Nat} (ht : t < N) (hT : t + N * gone t < T) : M.size 0 (kn.getD t []) = pickN (szs.getD (t + N * gone t) 0) 64 + 1 := by
  obtain ⟨ps, hp⟩ := fnow_head (szs := szs) hN hN4 ht hT
  have hb := h.at hT
  obtain ⟨r, hr⟩ : ∃ r, M.rt[t + N * gone t]? = some r := ⟨_, List.getElem?_eq_getElem (by rw [hi.rl]; exact (List.getElem?_eq_some_iff.1 hb).1)⟩
  have hf := h.rt r (List.mem_of_getElem? hr)
  have := hi.nw0
  unfold Ag.size
  rw [h.bs, hp]
  rw [← h.bs]
  simp only [hb, hr, Option.map_some, Option.getD_some]
  rw [if_neg (by omega), fnow_body, kbody_len]
theorem FRun.sizes {szs : List Int} {N T : Nat} {gone : Nat → Nat} {by' : Nat → Int} {M : Ag} {o : Out} {u : Nat} (h : FRun szs N T gone by' M o) (hi : Inv M u) (hN : 0 < N) (hN4 : N ≤ 4) (hT : ∀ t, t < N → t + N * gone t < T) {t : Nat} (ht : t < N) : (M.sizes 0).getD t 0 = pickN (szs.getD (t + N * gone t) 0) 64 + 1 := by
  have hk : (kn.take N)[t]? = some (kn.getD t []) := by
    rw [List.getElem?_take_of_lt ht, List.getD_eq_getElem?_getD, List.getElem?_eq_getElem (show t < kn.length by show t < 4; omega)]
    rfl
  unfold Ag.sizes
  rw [List.getD_eq_getElem?_getD, List.getElem?_map, h.ns, hk]
  exact h.size hi hN hN4 ht (hT t ht)

/-- No failure is not too many. -/
theorem none_fail {p r : Nat} (h : p < 4) (h1 : 1 ≤ r) (h2 : r ≤ 8) : tooMany (quarter p) 0 (r : Int) = false := by
  have key : ((List.range 4).all fun p => (List.range 8).all fun r => !((FloatKind.f64.format.order ((FloatKind.f64.format.div (floatOfInt .f64 0) (floatOfInt .f64 ((r + 1 : Nat) : Int))).getD 0) (quarter p) == some .gt) || (FloatKind.f64.format.order ((FloatKind.f64.format.div (floatOfInt .f64 0) (floatOfInt .f64 ((r + 1 : Nat) : Int))).getD 0) (quarter p) == some .eq))) = true := by kernel_rfl
  have := List.all_eq_true.1 (List.all_eq_true.1 key p (by simpa using h)) (r - 1) (by simp; omega)
  have e : r - 1 + 1 = r := by omega
  unfold tooMany quot
  rw [e] at this
  simpa using this

/-- What stands behind a send. -/
structure FGone (szs : List Int) (N : Nat) (gone : Nat → Nat) (M M' : Ag) (o o' : Out) (w : Nat) (s : Sd) : Prop where
  lt : w < N
  tr : s.try' = o.sends + 1
  id : s.id = kid (w + N * gone w)
  body : s.body = kbody (pickN (szs.getD (w + N * gone w) 0) 64)
  ho : M'.os[0]? = some o'
  way : o'.way = ((w + N * gone w : Nat) : Int)
  sn : o'.sends = o.sends + 1
  turn : o'.turn = w
  br : o'.trip = o.trip ∧ o'.fl = o.fl
  os : ∃ o1, M'.os = M.os.set 0 o1
  same : M'.c = M.c ∧ M'.D = M.D ∧ M'.ns = M.ns ∧ M'.bs = M.bs ∧ M'.rt = M.rt

theorem FRun.goes {szs : List Int} {N T : Nat} {gone : Nat → Nat} {by' : Nat → Int} {M : Ag} {o : Out} {u : Nat} (h : FRun szs N T gone by' M o) (hi : Inv M u) (hu : u + 1 ≤ 10000000000000) (hN : 0 < N) (hN4 : N ≤ 4) (hT : ∀ t, t < N → t + N * gone t < T) :
    ∃ M' s o' w, M.ticked 0 0 = (M', [s]) ∧ FGone szs N gone M M' o o' w s ∧ Bal N M.quanta (fun i => if i = w then by' i + (pickN (szs.getD (w + N * gone w) 0) 64 + 1 : Nat) else by' i) (o'.turn, o'.cr) := by
  have hi' := hi.later (ms := 0) (by omega) (by omega)
  have h' : FRun szs N T gone by' (M.later 0) o := ⟨h.bs, h.ho, h.wy, h.ns, h.rt, h.bal, h.tr, h.fl⟩
  have hnl : M.ns.length = N := by rw [h.ns, List.length_take]; show min N 4 = N; omega
  have hso := hi'.sendOk hu
  obtain ⟨_, _, _, _, hrot, _⟩ := hi'.os 0 o h'.ho
  have hrot' : Rot N (o.turn, o.cr) := by have := hrot; rw [show (M.later 0).ns = M.ns from rfl, hnl] at this; exact this
  have hsz : ∀ t, t < N → ((M.later 0).sizes 0).getD t 0 = pickN (szs.getD (t + N * gone t) 0) 64 + 1 := fun t ht => h'.sizes hi' hN hN4 hT ht
  have hall : ((M.later 0).sizes 0).all (· == 0) = false := by
    refine List.all_eq_false.2 ⟨((M.later 0).sizes 0).getD 0 0, ?_, by rw [hsz 0 hN]; simp⟩
    have hl : 0 < ((M.later 0).sizes 0).length := by show 0 < (M.ns.map _).length; rw [List.length_map, hnl]; exact hN
    rw [List.getD_eq_getElem?_getD, List.getElem?_eq_getElem hl]
    exact List.getElem_mem hl
  have hq : ∀ i, i < N → 64 ≤ M.quanta.getD i 0 ∧ M.quanta.getD i 0 ≤ 1000 := fun i hi2 => hso.quanta_bd i (by rw [show (M.later 0).ns = M.ns from rfl, hnl]; exact hi2)
  have htk : M.ticked 0 0 = (M.later 0).sentTo 0 := by
    unfold Ag.ticked
    rw [timed_idle h'.wy]
    have hl : 0 < (M.later 0).os.length := (List.getElem?_eq_some_iff.1 h'.ho).1
    obtain ⟨k, hk⟩ : ∃ k, (M.later 0).os.length = k + 1 := ⟨_, (Nat.succ_pred_eq_of_pos hl).symm⟩
    rw [hk]
    exact sentOut_first h'.dst k
  have hcl : o.cr.length = N := hrot'.len
  obtain ⟨s1, hs1⟩ : ∃ s1, turnsR ((M.later 0).sizes 0) M.quanta N (o.turn, o.cr) = s1 := ⟨_, rfl⟩
  have hb1 := Bal.turns (hso.sizes_le 0) hq (fun i hi2 => by rw [hsz i hi2]; omega) N (o.turn, o.cr) hrot' h.bal
  have hr1 := turnsR_rot (hso.sizes_le 0) hq N (o.turn, o.cr) hrot'
  rw [hs1] at hb1 hr1
  have hw := hr1.turn
  have ep : o.picked ((M.later 0).sizes 0) (M.later 0).quanta = { o with turn := s1.1, cr := s1.2.set s1.1 (s1.2.getD s1.1 0 - ((M.later 0).sizes 0).getD s1.1 0) } := by
    unfold Out.picked
    simp only [hcl, show (M.later 0).quanta = M.quanta from rfl, hs1]
  obtain ⟨ps, hp⟩ := fnow_head (szs := szs) hN hN4 hw (hT _ hw)
  have hnm : (M.later 0).named 0 o = s1.1 + N * gone s1.1 := by
    unfold Ag.named
    rw [ep]
    show (pend M.bs (0 : Nat) (M.ns.getD s1.1 [])).headD 0 = _
    have e2 : M.ns.getD s1.1 [] = kn.getD s1.1 [] := by
      rw [h.ns, List.getD_eq_getElem?_getD, List.getElem?_take_of_lt hw, ← List.getD_eq_getElem?_getD]
    rw [e2, h.bs, hp]
    rfl
  have hat := h'.at (hT _ hw)
  have e3 := sentTo_eq h'.ho (h.wy 0 o h.ho) (fun hh => by rw [h.tr] at hh; exact absurd hh.1 (by simp)) hall
  have hl := (List.getElem?_eq_some_iff.1 h'.ho).1
  have hpay := hb1.pay hr1 (z := ((pickN (szs.getD (s1.1 + N * gone s1.1) 0) 64 + 1 : Nat) : Int)) (by omega)
  rw [hnm, ep] at e3
  refine ⟨_, _, { o with turn := s1.1, cr := s1.2.set s1.1 (s1.2.getD s1.1 0 - ((M.later 0).sizes 0).getD s1.1 0), sends := o.sends + 1, way := ((s1.1 + N * gone s1.1 : Nat) : Int), began := (M.later 0).now }, s1.1, htk.trans e3, ⟨hw, rfl, ?_, ?_, ?_, rfl, rfl, rfl, ⟨rfl, rfl⟩, ⟨_, rfl⟩, rfl, rfl, rfl, rfl, rfl⟩, ?_⟩
  · simp only [hat, Option.map_some, Option.getD_some]
    exact fnow_id _ _ _ _
  · simp only [hat, Option.map_some, Option.getD_some]
    exact fnow_body _ _ _ _
  · show ((M.later 0).os.set 0 _)[0]? = some _
    rw [List.getElem?_set_self hl]
  · simp only
    rw [hsz _ hw]
    exact hpay
end Go.Proofs.YtojpjaifhjigfabGreatDoor

/- Fair: the good answer; and where it begins. -/
namespace Go.Proofs.YtojpjaifhjigfabGreatDoor
open Go.RowKit Go.Maps

/-- One more of w's is acked. -/
def more (gone : Nat → Nat) (w : Nat) : Nat → Nat := fun i => if i = w then gone i + 1 else gone i

theorem fnow_set {szs : List Int} {N T : Nat} {gone : Nat → Nat} (hN : 0 < N) {w : Nat} (hw : w < N) :
    ((List.range T).map (fnow szs N gone)).set (w + N * gone w) ((fnow szs N gone (w + N * gone w)).ended 1 0) = (List.range T).map (fnow szs N (more gone w)) := by
  have hmod : (w + N * gone w) % N = w := by rw [Nat.add_mul_mod_self_left]; exact Nat.mod_eq_of_lt hw
  have hdiv : (w + N * gone w) / N = gone w := by rw [Nat.add_mul_div_left _ _ hN, Nat.div_eq_of_lt hw]; omega
  apply List.ext_getElem?
  intro i
  by_cases hiT : i < T
  · rw [show ((List.range T).map (fnow szs N (more gone w)))[i]? = some (fnow szs N (more gone w) i) by simp [hiT]]
    by_cases e : w + N * gone w = i
    · subst e
      rw [List.getElem?_set_self (by simpa using hiT)]
      unfold fnow more
      rw [hmod, hdiv, if_neg (by omega)]
      simp
    · rw [List.getElem?_set_ne e, show ((List.range T).map (fnow szs N gone))[i]? = some (fnow szs N gone i) by simp [hiT]]
      unfold fnow more
      by_cases em : i % N = w
      · have hne : i / N ≠ gone w := fun hh => e (by have := Nat.div_add_mod i N; rw [hh, em] at this; omega)
        rw [em]
        simp only [if_true]
        by_cases c : i / N < gone w
        · rw [if_pos c, if_pos (by omega)]
        · rw [if_neg c, if_neg (by omega)]
      · rw [if_neg em]
  · rw [List.getElem?_eq_none (by simp; omega), List.getElem?_eq_none (by simp; omega)]

theorem FGone.replied {szs : List Int} {N T : Nat} {gone : Nat → Nat} {by' by2 : Nat → Int} {M M' : Ag} {o o' : Out} {w u p : Nat} {s : Sd} (g : FGone szs N gone M M' o o' w s) (h : FRun szs N T gone by' M o) (hb : Bal N M.quanta by2 (o'.turn, o'.cr)) (hi : Inv M' u) (hu : u + 1 ≤ 10000000000000) (hN : 0 < N)
    (hp4 : p < 4) (hth : M.c.th = quarter p) (hwi : M.c.wi ≤ 8) (hT : w + N * gone w < T) : ∃ o2, FRun szs N T (more gone w) by2 (M'.replied 0 true 0) o2 ∧ o2.sends = o'.sends ∧ o2.turn = w ∧ (M'.replied 0 true 0).c = M.c ∧ (M'.replied 0 true 0).D = M.D := by
  obtain ⟨s1, s2, s3, s4, s5⟩ := g.same
  have hway : o'.way ≠ -1 := by rw [g.way]; omega
  obtain ⟨pp, b, r, hs, hst, hdst, hfl⟩ := hi.setOk (by omega) (Int.le_refl 0) g.ho hway
  have hpp : pp = w + N * gone w := by have := hs.way; rw [g.way] at this; omega
  subst hpp
  have hbe : b = fnow szs N gone (w + N * gone w) := by
    have h1 := hs.hb
    rw [s4, h.at hT] at h1
    exact (Option.some.inj h1).symm
  obtain ⟨k, hk, hk0, f, e⟩ := replied_eq hs true
  have hl := (List.getElem?_eq_some_iff.1 g.ho).1
  obtain ⟨a1, a2, a3, a4, _⟩ := hi.os 0 o' g.ho
  obtain ⟨_, k2, k3, k4, k5, _⟩ := heard_ok { o' with way := -1 } M'.c M'.now true a1 a2 a3 a4
  obtain ⟨g1, g2⟩ := g.br
  have hbr : ({ o' with way := -1 }.heard M'.c M'.now true).trip = false ∧ ({ o' with way := -1 }.heard M'.c M'.now true).fl = 0 := by
    have ht : o'.trip = false := g1.trans h.tr
    have hf : o'.fl = 0 := g2.trans h.fl
    have hn := none_fail hp4 (r := (o'.res + 1).toNat) (by omega) (by rw [s1] at a2; omega)
    rw [show (((o'.res + 1).toNat : Nat) : Int) = o'.res + 1 by omega] at hn
    unfold Out.heard Out.counted
    simp only [ht, hf, Bool.false_eq_true, if_false, if_true, s1, hth, hn, Bool.and_false]
    split
    · exact ⟨rfl, rfl⟩
    · exact ⟨rfl, rfl⟩
  rw [e, over_eq hs true]
  refine ⟨{ o' with way := -1 }.heard M'.c M'.now true, ⟨?_, ?_, fun d o1 ho1 => ?_, ?_, ?_, ?_, hbr.1, hbr.2⟩, k4, k2.trans g.turn, s1, s2⟩
  · show M'.bs.set (w + N * gone w) (b.ended 1 0) = _
    rw [s4, h.bs, hbe]
    exact fnow_set hN g.lt
  · show (M'.os.set 0 _)[0]? = some _
    rw [List.getElem?_set_self hl]
  · have ho2 : (M'.os.set 0 _)[d]? = some o1 := ho1
    by_cases e0 : d = 0
    · subst e0
      rw [List.getElem?_set_self hl] at ho2
      cases ho2
      exact k5
    · rw [List.getElem?_set_ne (fun e => e0 e.symm)] at ho2
      obtain ⟨o3, e3⟩ := g.os
      rw [e3, List.getElem?_set_ne (fun e => e0 e.symm)] at ho2
      exact h.wy d o1 ho2
  · show M'.ns = _
    rw [s3]; exact h.ns
  · intro x hx
    have hx2 : x ∈ M'.rt := hx
    rw [s5] at hx2
    exact h.rt x hx2
  · have eq : ({ M' with os := M'.os.set 0 ({ o' with way := -1 }.heard M'.c M'.now true), bs := M'.bs.set (w + N * gone w) (b.ended 1 0), log := M'.log ++ recB 43 [Ev.of k (w + N * gone w) f] } : Ag).quanta = M.quanta := by
      show M'.ns.map (qOf M'.D) = M.ns.map (qOf M.D)
      rw [s2, s3]
    have e5 : ({ o' with way := -1 }.heard M'.c M'.now true).turn = o'.turn := k2
    have e6 : ({ o' with way := -1 }.heard M'.c M'.now true).cr = o'.cr := k3
    rw [e5, e6]
    show Bal N (M'.ns.map (qOf M'.D)) by2 _
    rw [s2, s3]
    exact hb
end Go.Proofs.YtojpjaifhjigfabGreatDoor

/- Fair: where it begins. -/
namespace Go.Proofs.YtojpjaifhjigfabGreatDoor
open Go.RowKit Go.Maps

theorem sorted_eq {α : Type} {r : α → α → Prop} : ∀ {l l' : List α}, (∀ a ∈ l, ∀ b ∈ l, r a b → r b a → a = b) → l.Perm l' → l.Pairwise r → l'.Pairwise r → l = l'
  | [], l', _, p, _, _ => (List.nil_perm.1 p).symm ▸ rfl
  | a :: l, [], _, p, _, _ => by have := p.length_eq; simp at this
  | a :: l, b :: l', an, p, h, h' => by
    by_cases e : a = b
    · subst e
      have := sorted_eq (fun x hx y hy => an x (by simp [hx]) y (by simp [hy])) ((List.perm_cons a).1 p) (List.pairwise_cons.1 h).2 (List.pairwise_cons.1 h').2
      rw [this]
    · have ha : a ∈ b :: l' := p.mem_iff.1 (by simp)
      have hb : b ∈ a :: l := p.mem_iff.2 (by simp)
      have ha' : a ∈ l' := by rcases List.mem_cons.1 ha with h1 | h1; exact absurd h1 e; exact h1
      have hb' : b ∈ l := by rcases List.mem_cons.1 hb with h1 | h1; exact absurd h1.symm e; exact h1
      exact absurd (an a (by simp) b hb ((List.pairwise_cons.1 h).1 b hb') ((List.pairwise_cons.1 h').1 a ha')) e

theorem kn_sorted : kn.Pairwise (fun x y => x ≤ y) := by decide
theorem kn_anti : ∀ a ∈ kn, ∀ b ∈ kn, a ≤ b → b ≤ a → a = b := by decide
theorem names_eq (zs : List Int) {k : Nat} (h1 : 1 ≤ k) (h2 : k ≤ 4) {ns : List (List UInt8)} (hp : ns.Perm (strKeys (DT (madeT zs k)))) (hs : ns.Pairwise (fun x y => x ≤ y)) : ns = kn.take k := by
  rw [made_keys zs h1 h2] at hp
  refine sorted_eq (fun a ha b hb => ?_) hp hs (kn_sorted.sublist (List.take_sublist _ _))
  exact kn_anti a (List.mem_of_mem_take (hp.mem_iff.1 ha)) b (List.mem_of_mem_take (hp.mem_iff.1 hb))

theorem FSub.start {zs szs : List Int} {N T u : Nat} {M : Ag} (h : FSub zs szs N T M) (hi : Inv M u) (hu : u ≤ 10000000000000) (hN : 0 < N) (hN4 : N ≤ 4) (hns : M.ns = kn.take N) : ∃ o, FRun szs N T (fun _ => 0) (fun _ => 0) M o ∧ o.sends = 0 := by
  have hd : (madeC zs).d.toNat = pickN (zs.getD 0 0) 3 + 1 := by show ((1 + (pickN (zs.getD 0 0) 3 : Int))).toNat = _; omega
  have hnl : M.ns.length = N := by rw [hns, List.length_take]; show min N 4 = N; omega
  have hq := (hi.sendOk hu).quanta_bd 0 (by rw [hnl]; exact hN)
  have hall : ∀ (d : Nat) o', M.os[d]? = some o' → o' = { res := 0, fl := 0, trip := false, unt := 0, turn := 0, cr := List.replicate M.ns.length 0, sends := 0, way := -1, began := 0 } := fun d o' ho => by
    rw [h.os] at ho
    exact (List.mem_replicate.1 (List.mem_of_getElem? ho)).2
  have h0 : ∀ i, (List.replicate M.ns.length (0 : Int)).getD i 0 = 0 := fun i => by
    rw [List.getD_eq_getElem?_getD, List.getElem?_replicate]
    split <;> rfl
  refine ⟨{ res := 0, fl := 0, trip := false, unt := 0, turn := 0, cr := List.replicate M.ns.length 0, sends := 0, way := -1, began := 0 }, ⟨?_, ?_, fun d o' ho => by rw [hall d o' ho], hns, h.rt, ⟨⟨0, fun i _ => ?_⟩, ?_⟩, rfl, rfl⟩, rfl⟩
  · rw [h.bs]
    refine List.map_congr_left fun i _ => ?_
    unfold fnow
    rw [if_neg (Nat.not_lt_zero _)]
  · rw [h.os]
    show (List.replicate (madeC zs).d.toNat _)[0]? = some _
    rw [hd, List.replicate_succ]
    rfl
  · simp only
    rw [h0]
    unfold rho
    rw [if_neg (by omega)]
    omega
  · simp only
    rw [h0]
    omega
end Go.Proofs.YtojpjaifhjigfabGreatDoor

/- The calls of an agent as it can be, behind up to 4 * 10^12 calls. -/
namespace Go.Proofs.YtojpjaifhjigfabGreatDoor
open Go.RowKit Go.Maps

theorem Inv.tickOkBig {M : Ag} {t : Nat} {ms draw : Int} (h : Inv M t) (ht : t + 1 ≤ 4000000000000) (h0 : 0 ≤ ms) (h1 : ms ≤ 60000) (hd : 0 ≤ draw) : TickOk (M.later ms) draw := by
  have hl := h.later h0 h1
  obtain ⟨i1, i2, _⟩ := hl.timed (by omega) hd (by have := h.lg; show M.log.length + 15 ≤ _; omega)
  exact ⟨hl.giveOk (by omega) hd, h.b120, fun b hb => (h.sl _ (h.each b hb).2.2.1).2, h.dead_le, by have := h.lg; show M.log.length ≤ _; omega, i1.sendOk (by omega), fun d o ho => i1.destOk (by omega) d o ho⟩
/-- Submit, of an agent as it can be. -/
theorem submit_big (A : Nat → Addr) (L : Labs) (who g t : Nat) (M : Ag) (b : Bat) (w : World) (hS : Sents.Holds w 197 gl 11 A) (hA : AgentAt w L who g M) (h : Inv M t) (ht : t ≤ 4000000000000) (hl : b.ten.length ≤ maxLen) :
    Calls Tryz.prog 47 #[.pointer (some ⟨g, 0, none⟩), batVal b] w fun e w' => e = .returned (errV A (M.refusal b)) ∧ Turned w L who g (M.submitted b) w' :=
  submit_any A L who g M b w hS hA h.b120 hl (Cfg.ok h.good.1).d.2 (fun x hx => (h.sl x ((h.hs x).2 hx)).2) (by have := h.lg; omega) (by rw [h.rl]; exact h.b120)
/-- Tick, of an agent as it can be. -/
theorem tick_big (L : Labs) (who g t : Nat) (M : Ag) (ms draw : Int) (w : World) (hA : AgentAt w L who g M) (h : Inv M t) (ht : t + 1 ≤ 4000000000000) (h0 : 0 ≤ ms) (h1 : ms ≤ 60000) (hd : 0 ≤ draw) :
    Calls Tryz.prog 48 #[.pointer (some ⟨g, 0, none⟩), .int .i64 ms, .int .i64 draw] w fun e w' => TickedTo w L who g (M.ticked ms draw) e w' :=
  tick_good L who g M ms draw w hA (by simp [inB, h0, h1]) hd h.nw0 (by have := h.nw1; omega) (h.tickOkBig ht h0 h1 hd)
/-- Reply to the send that is under way, of an agent as it can be. -/
theorem reply_big (L : Labs) (who g t d : Nat) (M : Ag) (o : Out) (good : Bool) (draw : Int) (w : World) (hA : AgentAt w L who g M) (h : Inv M t) (ht : t + 1 ≤ 4000000000000) (hd : 0 ≤ draw) (ho : M.os[d]? = some o) (hw : o.way ≠ -1) :
    Calls Tryz.prog 52 #[.pointer (some ⟨g, 0, none⟩), .int .i64 d, .int .i64 o.sends, .bool good, .int .i64 draw] w fun e w' => e = .returned .nilIface ∧ Turned w L who g (M.replied d good draw) w' := by
  obtain ⟨p, b, r, hs, h1, h2, h3⟩ := h.setOk (by omega) hd ho hw
  have hc := Cfg.ok h.good.1
  obtain ⟨q1, q2, q3, _⟩ := h.each b (List.mem_of_getElem? hs.hb)
  have hdl := (List.getElem?_eq_some_iff.1 ho).1
  have hol := h.ol
  exact reply_good L who g d p M o b r o.sends good draw w hA (by simp [destB]; omega) hs rfl h1 ⟨q1, by have := hc.d; omega⟩ (h.sl _ q3).2 h.b120 h.dead_le (by have := h.lg; omega)
end Go.Proofs.YtojpjaifhjigfabGreatDoor

/- conduitkeep's run: what holds between its steps. -/
namespace Go.Proofs.YtojpjaifhjigfabGreatDoor
open Go.RowKit Go.Maps

structure RK (w wr : World) (L : Labs) (gr g cm : Nat) (zs : List Int) (N : Nat) (R : Rn) (M : Ag) (t : Nat) : Prop where
  at' : RunAt wr L gr g cm (madeC zs) R
  ag : AgentAt wr L 1 g M
  cm : ∃ n, n ≤ 4 ∧ OM wr cm n (DT (madeT zs N)) ∧ L cm = none
  lo : ∀ k, k < w.heap.size → L k = none
  b : Below w.heap.size w wr
  rw' : RW R M
  bs : R.fs.map Fa.b = M.bs
  ids : ∀ (i : Nat) b, M.bs[i]? = some b → b.id = kid i
  n : R.n = R.fs.length
  n100 : R.n ≤ 100
  inv : Inv M t
  linv : LInv M
  c : M.c = madeC zs
  D : M.D = DT (madeT zs N)
  ns : M.ns = kn.take N
  sn : ∀ f ∈ R.fs, 0 ≤ f.sn ∧ f.sn ≤ 4 * t
  lg : M.log.length ≤ 15 * t + 200 * M.bs.length

/-- The run's own cells. -/
theorem runCells_14 (g cm : Nat) (c : Cfg) (fv wv : Value) (R : Rn) (tm : Int) : (runCells g cm c fv wv R).setIfInBounds 14 (.int .i64 tm) = runCells g cm c fv wv { R with time := tm } := by
  apply Array.ext'
  rw [Array.toList_setIfInBounds]
  rfl
theorem runCells_16 (g cm : Nat) (c : Cfg) (fv wv : Value) (R : Rn) : (runCells g cm c fv wv R).setIfInBounds 16 (.bool true) = runCells g cm c fv wv R := by
  apply Array.ext'
  rw [Array.toList_setIfInBounds]
  rfl
theorem RunP.setTime {w : World} {L : Labs} {gr g cm : Nat} {c : Cfg} {fv wv : Value} {R : Rn} (h : RunP w L gr g cm c fv wv R) (tm : Int) : RunP (w.setCell ⟨gr, 14, none⟩ (.int .i64 tm)) L gr g cm c fv wv { R with time := tm } ∧ Step (fun l => l = some (0, .ag)) L w L (w.setCell ⟨gr, 14, none⟩ (.int .i64 tm)) := by
  have s1 : Step (fun l => l = some (0, .ag)) L w L (w.setCell ⟨gr, 14, none⟩ (.int .i64 tm)) := Step.setCell _ _ _ _ h.blk.2
  refine ⟨⟨⟨?_, h.blk.2⟩, h.fa.keep s1 (by simp), h.wy.keep s1 (by simp)⟩, s1⟩
  have := h.blk.1.set 14 (.int .i64 tm)
  rw [runCells_14] at this
  exact this
theorem RunP.setOk {w : World} {L : Labs} {gr g cm : Nat} {c : Cfg} {fv wv : Value} {R : Rn} (h : RunP w L gr g cm c fv wv R) : RunP (w.setCell ⟨gr, 16, none⟩ (.bool true)) L gr g cm c fv wv R ∧ Step (fun l => l = some (0, .ag)) L w L (w.setCell ⟨gr, 16, none⟩ (.bool true)) := by
  have s1 : Step (fun l => l = some (0, .ag)) L w L (w.setCell ⟨gr, 16, none⟩ (.bool true)) := Step.setCell _ _ _ _ h.blk.2
  refine ⟨⟨⟨?_, h.blk.2⟩, h.fa.keep s1 (by simp), h.wy.keep s1 (by simp)⟩, s1⟩
  have := h.blk.1.set 16 (.bool true)
  rw [runCells_16] at this
  exact this

/-- The ids are apart. -/
theorem ids_find {M : Ag} (h : ∀ (i : Nat) b, M.bs[i]? = some b → b.id = kid i) (hl : M.bs.length ≤ 120) {i : Nat} {b : Bat} (hb : M.bs[i]? = some b) : findId M.bs b.id = i := by
  have hil := (List.getElem?_eq_some_iff.1 hb).1
  unfold findId
  have : M.bs.findIdx? (fun x => x.id == b.id) = some i := by
    rw [List.findIdx?_eq_some_iff_getElem]
    refine ⟨hil, ?_, fun j hj => ?_⟩
    · have := (List.getElem?_eq_some_iff.1 hb).2
      rw [this]
      simp
    · have hjl : j < M.bs.length := by omega
      have e1 := h j _ (List.getElem?_eq_getElem hjl)
      have e2 := h i b hb
      rw [e1, e2]
      simp only [beq_iff_eq]
      intro e
      have := kid_inj (by omega) (by omega) e
      omega
  rw [this]
theorem map_at {α β : Type} {f : α → β} {l : List α} {m : List β} (h : l.map f = m) {i : Nat} {a : α} (ha : l[i]? = some a) : m[i]? = some (f a) := by
  rw [← h, List.getElem?_map, ha]
  rfl
theorem RK.time0 {w wr : World} {L : Labs} {gr g cm : Nat} {zs : List Int} {N : Nat} {R : Rn} {M : Ag} {t : Nat} (h : RK w wr L gr g cm zs N R M t) : 0 ≤ R.time ∧ R.time ≤ 60000 * t := by
  rw [h.rw'.time]
  exact ⟨h.inv.nw0, h.inv.nw1⟩
/-- The same with another time. -/
theorem RW.later {R : Rn} {M : Ag} (h : RW R M) (ms : Int) : RW { R with time := R.time + ms } (M.later ms) := ⟨h.len, h.wl, h.ws, h.af, by show R.time + ms = M.now + ms; rw [h.time], h.same⟩
/-- Another look, another log. -/
theorem RW.logged {R : Rn} {M : Ag} (h : RW R M) (l : List UInt8) : RW R { M with log := l } := ⟨h.len, h.wl, h.ws, h.af, h.time, h.same⟩
theorem RW.looked {R : Rn} {M : Ag} (h : RW R M) : RW { R with fs := looked R.fs M.bs R.fs.length } M := by
  have hl : M.bs.length = R.fs.length := h.len.symm
  have key : ∀ (i : Nat) (f : Fa), (Go.Proofs.YtojpjaifhjigfabGreatDoor.looked R.fs M.bs R.fs.length)[i]? = some f → ∃ f0 b, R.fs[i]? = some f0 ∧ M.bs[i]? = some b ∧ f.b = b ∧ f.af = f0.af := fun i f hf => by
    have hil : i < R.fs.length := by have := (List.getElem?_eq_some_iff.1 hf).1; rw [looked_len] at this; exact this
    obtain ⟨f0, h0⟩ : ∃ f0, R.fs[i]? = some f0 := ⟨_, List.getElem?_eq_getElem hil⟩
    obtain ⟨b, hb⟩ : ∃ b, M.bs[i]? = some b := ⟨_, List.getElem?_eq_getElem (by omega)⟩
    rw [looked_at h0 hb, if_pos hil] at hf
    cases hf
    exact ⟨f0, b, h0, hb, rfl, rfl⟩
  refine ⟨by rw [looked_len]; exact h.len, h.wl, h.ws, fun i f r b hf hr hb hst => ?_, h.time, fun i f b hf hb => ?_⟩
  · obtain ⟨f0, b0, h0, _, _, e⟩ := key i f hf
    rw [e]
    exact h.af i f0 r b h0 hr hb hst
  · obtain ⟨f0, b0, _, hb0, e, _⟩ := key i f hf
    rw [hb] at hb0
    cases hb0
    rw [e]
    exact ⟨rfl, rfl, rfl, rfl⟩
theorem overs_wlen (R : Rn) (c : Cfg) : ∀ k, (R.overs c k).ws.length = R.ws.length
  | 0 => rfl
  | k + 1 => by
    have ih := overs_wlen R c k
    rw [Rn.overs_succ]
    cases R.ws[k]? with
    | none => exact ih
    | some y =>
      simp only
      split
      · unfold Rn.over
        cases (R.overs c k).ws[k]? with
        | none => exact ih
        | some y' => simp only [List.length_set]; exact ih
      · exact ih
/-- The labels of others may turn. -/
theorem AgentAt.relab {w : World} {L L' : Labs} {who g : Nat} {M : Ag} (h : AgentAt w L who g M) (hl : ∀ k q, L k = some (who, q) → L' k = some (who, q)) : AgentAt w L' who g M := by
  obtain ⟨bq, bm, cn, tv, dv, nv, rv, ov, h⟩ := h
  refine ⟨bq, bm, cn, tv, dv, nv, rv, ov, ⟨h.blk.1, hl _ _ h.blk.2⟩, ⟨h.tk.1, fun k hk => hl _ _ (h.tk.2 k hk)⟩, ?_, ⟨h.dd.1, fun k hk => hl _ _ (h.dd.2 k hk)⟩, ⟨h.nm.1, fun k hk => hl _ _ (h.nm.2 k hk)⟩, ⟨h.rt.1, fun k hk => hl _ _ (h.rt.2 k hk)⟩, ?_, ⟨h.cm.1, hl _ _ h.cm.2⟩⟩
  · obtain ⟨D, q1, q2, q3, q4, q5⟩ := h.qs
    exact ⟨D, ⟨q1.1, hl _ _ q1.2⟩, q2, q3, q4, fun d t hh => ⟨(q5 d t hh).1, fun k hk => hl _ _ ((q5 d t hh).2 k hk)⟩⟩
  · obtain ⟨fs, q1, q2, q3⟩ := h.ol
    refine ⟨fs, q1, ⟨q2.1, fun k hk => hl _ _ (q2.2 k hk)⟩, fun i o f ho hf => ?_⟩
    obtain ⟨g1, r1, r2, r3⟩ := q3 i o f ho hf
    exact ⟨g1, r1, ⟨r2.1, hl _ _ r2.2⟩, ⟨r3.1, fun k hk => hl _ _ (r3.2 k hk)⟩⟩
theorem RunAt.relab {w : World} {L L' : Labs} {gr g cm : Nat} {c : Cfg} {R : Rn} (h : RunAt w L gr g cm c R) (hl : ∀ k q, L k = some (0, q) → L' k = some (0, q)) : RunAt w L' gr g cm c R := by
  obtain ⟨fv, wv, h⟩ := h
  exact ⟨fv, wv, ⟨h.blk.1, hl _ _ h.blk.2⟩, ⟨h.fa.1, fun k hk => hl _ _ (h.fa.2 k hk)⟩, ⟨h.wy.1, fun k hk => hl _ _ (h.wy.2 k hk)⟩⟩

/-- Tick, its sends labelled by themselves. -/
theorem rtick_call (L : Labs) (g t : Nat) (M : Ag) (ms draw : Int) (w : World) (hA : AgentAt w L 1 g M) (h : Inv M t) (ht : t + 1 ≤ 4000000000000) (h0 : 0 ≤ ms) (h1 : ms ≤ 60000) (hd : 0 ≤ draw) :
    Calls Tryz.prog 48 #[.pointer (some ⟨g, 0, none⟩), .int .i64 ms, .int .i64 draw] w fun e w' => ∃ va vk L2, e = .returned (.tuple #[.slice va (M.ticked ms draw).2.length vk, .nilIface]) ∧ RowAt w' L2 (some (7, .ag)) 111 4 (.slice va (M.ticked ms draw).2.length vk) (M.ticked ms draw).2.length ((M.ticked ms draw).2.flatMap Sd.cells) ∧ AgentAt w' L2 1 g (M.ticked ms draw).1 ∧ Step (ofP 1) L w L2 w' := by
  refine (tick_big L 1 g t M ms draw w hA h ht h0 h1 hd).mono ?_
  rintro e w2 ⟨v, L2, l2, rfl, hRow, hl2, hfr, hAe, hS2⟩
  obtain ⟨va, vk, rfl, _⟩ := hRow.shape
  cases hb : (Value.slice va (M.ticked ms draw).2.length vk).ownBlock with
  | none => exact ⟨va, vk, L2, rfl, ⟨hRow.1, fun k hk => by rw [hb] at hk; cases hk⟩, hAe, hS2⟩
  | some gs =>
    have hLg := hRow.2 gs hb
    have hge : w.heap.size ≤ gs := by
      rcases Nat.lt_or_ge gs w.heap.size with hlt | hge
      · exact absurd ((hS2.lab gs hlt).symm.trans hLg) (hfr gs hlt)
      · exact hge
    refine ⟨va, vk, lay L2 gs (some (7, .ag)), rfl, ⟨hRow.1, fun k hk => ?_⟩, hAe.relab (fun k q hk => ?_), ⟨hS2.os, hS2.tape, hS2.output, hS2.size, fun k hk => ?_, hS2.block⟩⟩
    · rw [hb] at hk
      cases hk
      exact lay_same _ _ _
    · rw [lay_other _ _ (fun e => hl2 ⟨q, by rw [← hLg, ← e]; exact hk⟩)]
      exact hk
    · rw [lay_other _ _ (by omega)]
      exact hS2.lab k hk
theorem sentOut_few (M : Ag) : ∀ k, (M.sentOut k).2.length ≤ k
  | 0 => Nat.le_refl _
  | k + 1 => by
    have ih := sentOut_few M k
    have h1 : ∀ (N : Ag) (d : Nat), (N.sentTo d).2.length ≤ 1 := fun N d => by
      unfold Ag.sentTo
      cases N.os[d]? with
      | none => simp
      | some o => simp only; split <;> simp
    show ((M.sentOut k).2 ++ ((M.sentOut k).1.sentTo k).2).length ≤ k + 1
    rw [List.length_append]
    have := h1 (M.sentOut k).1 k
    omega
theorem over_dn (M : Ag) (d : Nat) (good : Bool) (draw : Int) : (M.over d good draw).D = M.D ∧ (M.over d good draw).ns = M.ns := by
  unfold Ag.over Ag.settled
  cases M.os[d]? with
  | none => simp only; unfold Ag.played; split <;> exact ⟨rfl, rfl⟩
  | some o =>
    simp only
    cases good
    · simp only [Bool.false_eq_true, if_false]
      split
      · split <;> (unfold Ag.played; split <;> exact ⟨rfl, rfl⟩)
      · unfold Ag.played; split <;> exact ⟨rfl, rfl⟩
    · simp only [if_true]; unfold Ag.played; split <;> exact ⟨rfl, rfl⟩
theorem overs_dn (M : Ag) (draw : Int) : ∀ k, (M.overs draw k).D = M.D ∧ (M.overs draw k).ns = M.ns
  | 0 => ⟨rfl, rfl⟩
  | k + 1 => by
    have ih := overs_dn M draw k
    rw [Ag.overs_succ]
    cases M.os[k]? with
    | none => exact ih
    | some o =>
      simp only
      split
      · obtain ⟨q1, q2⟩ := over_dn (M.overs draw k) k false draw
        exact ⟨q1.trans ih.1, q2.trans ih.2⟩
      · exact ih
/-- Tick in its two halves. -/
theorem ticked_by {M : Ag} {t : Nat} {ms draw : Int} (h : Inv M t) (ht : t + 1 ≤ 10000000000000) (h0 : 0 ≤ ms) (h1 : ms ≤ 60000) (hd : 0 ≤ draw) : ∃ l, SentBy { (M.later ms).overs draw M.os.length with log := l } (M.ticked ms draw).2 (M.ticked ms draw).1 ∧ (M.ticked ms draw).2.length ≤ M.os.length ∧ l.length ≤ M.log.length + 15 := by
  have hi := h.later h0 h1
  have hg := hi.giveOk (draw := draw) ht hd
  have hlg : (M.later ms).log.length + 15 ≤ 200 * (t + 1) := by have := h.lg; show M.log.length + 15 ≤ _; omega
  obtain ⟨i1, i2, _, _⟩ := hi.timed ht hd hlg
  have hsd : ∀ (d : Nat) o, ((M.later ms).timed draw).os[d]? = some o → o.sends + 1 ≤ (t + 1 : Nat) := fun d o ho => by
    obtain ⟨o', ho', e⟩ := sends_of i2 ho
    have := (h.os d o' ho').2.2.2.2.2.2.1
    omega
  have key := sentOut_by i1 ht hsd ((M.later ms).timed draw).os.length
  have hlen := sentOut_few ((M.later ms).timed draw) ((M.later ms).timed draw).os.length
  have e := timed_eq hg
  have hol : ((M.later ms).timed draw).os.length = M.os.length := by
    have h2 := i1.ol
    have h3 := h.ol
    have h4 : ((M.later ms).timed draw).c = M.c := (hi.timed ht hd hlg).2.2.2
    rw [h4] at h2
    omega
  rw [hol] at hlen
  refine ⟨M.log ++ recB 43 ((M.later ms).gaveUp draw (M.later ms).os.length).2, ?_, ?_, ?_⟩
  · have : ({ (M.later ms).overs draw M.os.length with log := M.log ++ recB 43 ((M.later ms).gaveUp draw (M.later ms).os.length).2 } : Ag) = (M.later ms).timed draw := e.symm
    rw [this]
    exact key
  · show ((((M.later ms).timed draw)).sentOut (((M.later ms).timed draw)).os.length).2.length ≤ _
    rw [hol]
    exact hlen
  · obtain ⟨q1, _, _⟩ := gaveUp_evs hg (M.later ms).os.length
    have hl := gaveUp_len (M := M.later ms) (draw := draw) (M.later ms).os.length
    have h4 := hg.o4
    have hr := recB_le (es := ((M.later ms).gaveUp draw (M.later ms).os.length).2) (fun e he => by
      obtain ⟨b, q⟩ := q1 e he
      rcases q.kd with h | h <;> omega)
    rw [List.length_append]
    omega

/-- What the run and its agent may turn. -/
def ofR : Lab → Prop := fun l => ofP 0 l ∨ ofP 1 l
theorem ofR_none : ¬ ofR none := fun h => by rcases h with ⟨q, e⟩ | ⟨q, e⟩ <;> cases e
theorem RK.base {w wr w' : World} {L L' : Labs} {gr g cm : Nat} {zs : List Int} {N : Nat} {R : Rn} {M : Ag} {t : Nat} (h : RK w wr L gr g cm zs N R M t) (s : Step ofR L wr L' w') : (∃ n, n ≤ 4 ∧ OM w' cm n (DT (madeT zs N)) ∧ L' cm = none) ∧ (∀ k, k < w.heap.size → L' k = none) ∧ Below w.heap.size w w' := by
  refine ⟨?_, fun k hk => (s.lab k (Nat.lt_of_lt_of_le hk h.b.size)).trans (h.lo k hk), h.b.trans (s.below h.b.size (fun k hk => by rw [h.lo k hk]; exact ofR_none))⟩
  obtain ⟨n, hn, ho, hl⟩ := h.cm
  have hlt := ho.lt
  exact ⟨n, hn, ownsMap_of_block ho (s.block cm hlt (by rw [hl]; exact ofR_none)), (s.lab cm hlt).trans hl⟩
theorem step_r0 {L L' : Labs} {w w' : World} (s : Step (ofP 0) L w L' w') : Step ofR L w L' w' := s.mono (fun _ h => Or.inl h)
theorem step_r1 {L L' : Labs} {w w' : World} (s : Step (ofP 1) L w L' w') : Step ofR L w L' w' := s.mono (fun _ h => Or.inr h)
end Go.Proofs.YtojpjaifhjigfabGreatDoor
