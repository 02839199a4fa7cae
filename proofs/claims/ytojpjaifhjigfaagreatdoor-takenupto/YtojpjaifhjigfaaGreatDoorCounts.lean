/- How many pending batches each tenant has: what is counted lane by lane, in whatever order. -/
import Derived.Test.YtojpjaifhjigfaaGreatDoorDead
namespace Go.Proofs.YtojpjaifhjigfaaGreatDoor
open Go.RowKit Go.Maps

theorem keyStr {x : List UInt8} (h : x.length ≤ maxLen) : keyOf Tryz.prog 9 (encStr x) = some (.string x) := by
  simp [keyOf, Tryz.underlying9, mapKey, encStr, ByteArray.size, h]



theorem pend_le (bs : List Bat) (d : Int) (t : List UInt8) : (pend bs d t).length ≤ bs.length := by
  unfold pend
  rw [List.length_map]
  refine Nat.le_trans (List.length_filter_le _ _) ?_
  rw [List.length_zipIdx]; exact Nat.le_refl _

/-- What of a lane is counted already. -/
def laneCnt (bs : List Bat) (left : Lit → Bool) (d : Int) (t : List UInt8) : Nat := if left (laneKey d t) then 0 else (pend bs d t).length
/-- What of a tenant is counted already: the lanes of the four destinations. -/
def cntLeft (bs : List Bat) (left : Lit → Bool) (t : List UInt8) : Nat := laneCnt bs left 0 t + laneCnt bs left 1 t + laneCnt bs left 2 t + laneCnt bs left 3 t
/-- How many pending batches a tenant has. -/
def waits (bs : List Bat) (t : List UInt8) : Nat := (pend bs 0 t).length + (pend bs 1 t).length + (pend bs 2 t).length + (pend bs 3 t).length

theorem laneCnt_le (bs : List Bat) (left : Lit → Bool) (d : Int) (t : List UInt8) : laneCnt bs left d t ≤ bs.length := by
  unfold laneCnt
  split
  · exact Nat.zero_le _
  · exact pend_le bs d t
theorem cntLeft_le (bs : List Bat) (left : Lit → Bool) (t : List UInt8) : cntLeft bs left t ≤ 4 * bs.length := by
  have := laneCnt_le bs left 0 t
  have := laneCnt_le bs left 1 t
  have := laneCnt_le bs left 2 t
  have := laneCnt_le bs left 3 t
  unfold cntLeft; omega
theorem cntLeft_end {bs : List Bat} {left : Lit → Bool} (h : ∀ k, left k = false) (t : List UInt8) : cntLeft bs left t = waits bs t := by simp [cntLeft, waits, laneCnt, h]

/-- A map of counts: it holds just those that are above 0. -/
def CountsAre (D : DataW Unit) (f : List UInt8 → Nat) : Prop := ∀ t : List UInt8, t.length ≤ maxLen → (0 < f t → ∀ z, D.atKey (.string t) z = .lit (.int .i64 (f t))) ∧ (f t = 0 → Maps.has D (.string t) = false)
theorem CountsAre.congr {D : DataW Unit} {f g : List UInt8 → Nat} (h : CountsAre D f) (e : ∀ t : List UInt8, t.length ≤ maxLen → f t = g t) : CountsAre D g := fun t ht => by rw [← e t ht]; exact h t ht
theorem CountsAre.look {D : DataW Unit} {f : List UInt8 → Nat} (h : CountsAre D f) {t : List UInt8} (ht : t.length ≤ maxLen) {c : Int} (hc : D.atKey (.string t) (.lit (.int .i64 0)) = .lit (.int .i64 c)) : c = f t := by
  rcases Nat.eq_zero_or_pos (f t) with h0 | h0
  · rw [atKey_of_not_has ((h t ht).2 h0)] at hc
    simp at hc
    omega
  · rw [(h t ht).1 h0] at hc
    simp at hc
    omega
theorem CountsAre.has {D : DataW Unit} {f : List UInt8 → Nat} (h : CountsAre D f) {t : List UInt8} (ht : t.length ≤ maxLen) : Maps.has D (.string t) = decide (0 < f t) := by
  rcases Nat.eq_zero_or_pos (f t) with h0 | h0
  · rw [(h t ht).2 h0]; simp [h0]
  · rw [has_true_of_atKey ((h t ht).1 h0)]; simp [h0]
theorem CountsAre.put {D : DataW Unit} {f : List UInt8 → Nat} (h : CountsAre D f) (hD : IsMap D) {t : List UInt8} {n : Nat} (hn : 0 < n) : CountsAre (D.put (.string t) (.lit (.int .i64 n))) (fun t' => if t' = t then n else f t') := fun t' ht' => by
  by_cases e : t' = t
  · subst e
    simp only [if_true]
    exact ⟨fun _ z => atKey_put_same hD (by trivial) _ _, fun h0 => by omega⟩
  · simp only [if_neg e]
    have hne : Lit.string t' ≠ Lit.string t := fun he => e (by simpa using he)
    exact ⟨fun h0 z => by rw [atKey_put_other hne]; exact (h t' ht').1 h0 z, fun h0 => by rw [has_put_other hne]; exact (h t' ht').2 h0⟩

theorem sameKey_lane {d d' : Int} {t t' : List UInt8} (h : LaneOk d t) (h' : LaneOk d' t') : (laneKey d t).sameKey (laneKey d' t') = decide (d = d' ∧ t = t') := by
  by_cases e : d = d' ∧ t = t'
  · obtain ⟨rfl, rfl⟩ := e
    simp [laneKey, Lit.sameKey]
  · rw [sameKey_ne (laneKey_ne h h' e)]; simp [e]
theorem laneOk_small {d : Int} {t : List UInt8} (h0 : 0 ≤ d) (h1 : d < 4) (ht : t.length ≤ maxLen) : LaneOk d t := ⟨WalkArith.wf_i64 (by omega), ht⟩
theorem laneCnt_step {bs : List Bat} {left : Lit → Bool} {d d' : Int} {t t' : List UInt8} (h : LaneOk d t) (h' : LaneOk d' t') (hl : left (laneKey d t) = true) :
    laneCnt bs (fun z => left z && !z.sameKey (laneKey d t)) d' t' = laneCnt bs left d' t' + (if d' = d ∧ t' = t then (pend bs d t).length else 0) := by
  unfold laneCnt
  simp only [sameKey_lane h' h]
  by_cases e : d' = d ∧ t' = t
  · obtain ⟨rfl, rfl⟩ := e
    simp [hl]
  · simp [e]
theorem cntLeft_step {bs : List Bat} {left : Lit → Bool} {d : Int} {t t' : List UInt8} (h : LaneOk d t) (h0 : 0 ≤ d) (h1 : d < 4) (ht' : t'.length ≤ maxLen) (hl : left (laneKey d t) = true) :
    cntLeft bs (fun z => left z && !z.sameKey (laneKey d t)) t' = if t' = t then cntLeft bs left t + (pend bs d t).length else cntLeft bs left t' := by
  have k := fun i (a : 0 ≤ i) (b : i < 4) => laneCnt_step (bs := bs) (d' := i) (t' := t') h (laneOk_small a b ht') hl
  unfold cntLeft
  rw [k 0 (by omega) (by omega), k 1 (by omega) (by omega), k 2 (by omega) (by omega), k 3 (by omega) (by omega)]
  by_cases e : t' = t
  · subst e
    simp only [and_true, if_true]
    have : d = 0 ∨ d = 1 ∨ d = 2 ∨ d = 3 := by omega
    rcases this with rfl | rfl | rfl | rfl <;> simp <;> omega
  · simp [e]
theorem countsAre_start {bs : List Bat} {D : DataW Value} (h : ∀ d t, LaneOk d t → pend bs d t ≠ [] → Maps.has D (laneKey d t) = true) : CountsAre (.map []) (cntLeft bs (Maps.has D)) := fun t ht => by
  have k : ∀ d : Int, 0 ≤ d → d < 4 → laneCnt bs (Maps.has D) d t = 0 := fun d a b => by
    unfold laneCnt
    split
    · rfl
    · rename_i hf
      rcases Nat.eq_zero_or_pos (pend bs d t).length with h0 | h0
      · exact h0
      · exact absurd (h d t (laneOk_small a b ht) (fun e => by rw [e] at h0; simp at h0)) hf
  have e : cntLeft bs (Maps.has D) t = 0 := by
    unfold cntLeft
    rw [k 0 (by omega) (by omega), k 1 (by omega) (by omega), k 2 (by omega) (by omega), k 3 (by omega) (by omega)]
  rw [e]
  exact ⟨fun h0 => by omega, fun _ => rfl⟩
theorem hdr_of_at {D : DataW Value} {d : Int} {t : List UInt8} {v : Value} (h : ∀ z, D.atKey (laneKey d t) z = .held v) : hdr D d t = v := by simp [hdr, h]
end Go.Proofs.YtojpjaifhjigfaaGreatDoor
