/- The law's world: its pairs, its book; asked. -/
import Derived.Test.YtojpjaifhjigfaaGreatDoorLawStatus
namespace Go.Proofs.YtojpjaifhjigfaaGreatDoor
open Go.RowKit Go.Maps

/-- The program's agent and the document's hold the same (nothing has been sent). -/
structure Sim (M : Ag) (R : Rf) : Prop where
  c : R.c = M.c
  bs : R.bs = M.bs
  dd : M.dead = []
  dr : R.dead = []
  good : GoodC M.c M.D
  pm : R.ns.Perm (strKeys M.D)
  nd : R.ns.Nodup
  nl : R.ns.length ≤ 8
  sl : ∀ x ∈ R.ns, 1 ≤ x.length ∧ x.length ≤ 16
  hs : ∀ x, x ∈ R.ns ↔ Maps.has M.D (.string x) = true
  b120 : M.bs.length ≤ 120
  each : ∀ b ∈ M.bs, 0 ≤ b.dst ∧ b.dst < M.c.d ∧ b.ten ∈ R.ns ∧ b.st = 1 ∧ 1 ≤ b.id.length ∧ b.id.length ≤ 16 ∧ b.body.length ≤ 63
  rt : M.rt.length = M.bs.length
  lg : M.log.length ≤ 103 * M.bs.length

/-- A pair in memory. -/
def PairAt (w : World) (L : Labs) (i gp : Nat) (M : Ag) (R : Rf) : Prop := ∃ gx gy c m sv lg, BlkAt w L (bl 8 i) gp (prCells gx gy c m sv lg) 102 ∧ AgentAt w L (2 * i + 1) gx M ∧ RefAt w L (2 * i + 2) gy R ∧ Sim M R
theorem PairAt.keep {w w' : World} {L L' : Labs} {i gp : Nat} {M : Ag} {R : Rf} (h : PairAt w L i gp M R) {p : Lab → Prop} (s : Step p L w L' w') (h8 : ¬ p (bl 8 i)) (h1 : ∀ q, ¬ p (some (2 * i + 1, q))) (h2 : ∀ q, ¬ p (some (2 * i + 2, q))) : PairAt w' L' i gp M R := by
  obtain ⟨gx, gy, c, m, sv, lg, q1, q2, q3, q4⟩ := h
  exact ⟨gx, gy, c, m, sv, lg, q1.keep s h8, q2.keep s h1, q3.keep s h2, q4⟩

/-- The world. -/
structure WAt (w : World) (L : Labs) (gw : Nat) (A : Nat → Addr) (cur : Array Value) (pv tv mv : Value) (np nt nm : Nat) (ps : List Value) : Prop where
  blk : BlkAt w L (bl 2 0) gw cur 38
  c22 : cur[22]? = some pv
  c23 : cur[23]? = some tv
  c24 : cur[24]? = some (.slice none 0 0)
  c25 : cur[25]? = some mv
  prs : RowAt w L (bl 7 0) 97 1 pv np ps
  pr : ∀ (i : Nat) (v : Value), ps[i]? = some v → ∃ gp M R, v = .pointer (some ⟨gp, 0, none⟩) ∧ PairAt w L i gp M R
  txt : TextsAt w L tv nt
  mps : MapsAt w L mv nm
  err : ErrsAt w L A

theorem WAt.text {w w' : World} {L L' : Labs} {gw : Nat} {A : Nat → Addr} {cur : Array Value} {pv tv mv tv' : Value} {np nt nm nt' k : Nat} {ps : List Value} (h : WAt w L gw A cur pv tv mv np nt nm ps) (hb : BlkAt w' L' (bl 2 0) gw (cur.setIfInBounds 23 tv') 38) (ht : TextsAt w' L' tv' nt') (s : Step (wdP k) L w L' w') :
    WAt w' L' gw A (cur.setIfInBounds 23 tv') pv tv' mv np nt' nm ps := by
  have hl := (Array.getElem?_eq_some_iff.1 h.c23).1
  refine ⟨hb, by rw [Array.getElem?_setIfInBounds_ne (by omega)]; exact h.c22, by simp [hl], by rw [Array.getElem?_setIfInBounds_ne (by omega)]; exact h.c24, by rw [Array.getElem?_setIfInBounds_ne (by omega)]; exact h.c25,
    h.prs.keep s (by simp [wdP, bl]), fun i v hv => ?_, ht, h.mps.keep s (by simp [wdP, bl]) (fun i _ => by simp [wdP, bl]), h.err.keep s (by simp [wdP])⟩
  obtain ⟨gp, M, R, h1, h2⟩ := h.pr i v hv
  exact ⟨gp, M, R, h1, h2.keep s (by simp [wdP, bl]) (fun q => by simp [wdP, bl]) (fun q => by simp [wdP, bl])⟩
theorem WAt.map {w w' : World} {L L' : Labs} {gw : Nat} {A : Nat → Addr} {cur : Array Value} {pv tv mv mv' : Value} {np nt nm nm' k : Nat} {ps : List Value} (h : WAt w L gw A cur pv tv mv np nt nm ps) (hb : BlkAt w' L' (bl 2 0) gw (cur.setIfInBounds 25 mv') 38) (ht : MapsAt w' L' mv' nm') (s : Step (wwP k) L w L' w') :
    WAt w' L' gw A (cur.setIfInBounds 25 mv') pv tv mv' np nt nm' ps := by
  have hl := (Array.getElem?_eq_some_iff.1 h.c25).1
  refine ⟨hb, by rw [Array.getElem?_setIfInBounds_ne (by omega)]; exact h.c22, by rw [Array.getElem?_setIfInBounds_ne (by omega)]; exact h.c23, by rw [Array.getElem?_setIfInBounds_ne (by omega)]; exact h.c24, by simp [hl],
    h.prs.keep s (by simp [wwP, bl]), fun i v hv => ?_, h.txt.keep s (by simp [wwP, bl]) (fun i _ => by simp [wwP, bl]), ht, h.err.keep s (by simp [wwP])⟩
  obtain ⟨gp, M, R, h1, h2⟩ := h.pr i v hv
  exact ⟨gp, M, R, h1, h2.keep s (by simp [wwP, bl]) (fun q => by simp [wwP, bl]) (fun q => by simp [wwP, bl])⟩
theorem WAt.step {w w' : World} {L L' : Labs} {gw : Nat} {A : Nat → Addr} {cur : Array Value} {pv tv mv : Value} {np nt nm : Nat} {ps : List Value} (h : WAt w L gw A cur pv tv mv np nt nm ps) (s : Step (fun _ => False) L w L' w') : WAt w' L' gw A cur pv tv mv np nt nm ps := by
  refine ⟨h.blk.keep s (fun h => h), h.c22, h.c23, h.c24, h.c25, h.prs.keep s (fun h => h), fun i v hv => ?_, h.txt.keep s (fun h => h) (fun _ _ h => h), h.mps.keep s (fun h => h) (fun _ _ h => h), h.err.keep s (fun h => h)⟩
  obtain ⟨gp, M, R, h1, h2⟩ := h.pr i v hv
  exact ⟨gp, M, R, h1, h2.keep s (fun h => h) (fun _ h => h) (fun _ h => h)⟩
theorem WAt.below {w w' : World} {L : Labs} {gw : Nat} {A : Nat → Addr} {cur : Array Value} {pv tv mv : Value} {np nt nm : Nat} {ps : List Value} (h : WAt w L gw A cur pv tv mv np nt nm ps) (hb : Below w.heap.size w w') : WAt w' L gw A cur pv tv mv np nt nm ps := h.step (Step.of_below hb)

/-- Lanes against tenants: of batches to the four destinations the counts are one. -/
theorem pend_snoc (bs : List Bat) (b : Bat) (d : Int) (t : List UInt8) : pend (bs ++ [b]) d t = pend bs d t ++ (if decide (b.dst = d) && decide (b.ten = t) && decide (b.st = 1) then [bs.length] else []) := by
  unfold pend
  rw [List.zipIdx_append, List.filter_append, List.map_append]
  congr 1
  simp only [List.zipIdx_cons, List.zipIdx_nil, List.filter_cons, List.filter_nil]
  split <;> simp_all
theorem waits_snoc (bs : List Bat) (b : Bat) (h0 : 0 ≤ b.dst) (h1 : b.dst < 4) (t : List UInt8) : waits (bs ++ [b]) t = waits bs t + (if decide (b.ten = t) && decide (b.st = 1) then 1 else 0) := by
  have hd : b.dst = 0 ∨ b.dst = 1 ∨ b.dst = 2 ∨ b.dst = 3 := by omega
  unfold waits
  rw [pend_snoc, pend_snoc, pend_snoc, pend_snoc]
  rcases hd with h | h | h | h <;> rw [h] <;> by_cases ht : b.ten = t <;> by_cases hs : b.st = 1 <;> simp [ht, hs] <;> omega
theorem cntP_snoc (bs : List Bat) (b : Bat) (t : List UInt8) : cntP (bs ++ [b]) t = cntP bs t + (if decide (b.ten = t) && decide (b.st = 1) then 1 else 0) := by
  unfold cntP
  rw [List.filter_append, List.length_append]
  congr 1
  simp only [List.filter_cons, List.filter_nil]
  by_cases ht : b.ten = t <;> by_cases hs : b.st = 1 <;> simp [ht, hs]
theorem snoc_ind {α : Type} {P : List α → Prop} (h0 : P []) (hs : ∀ l a, P l → P (l ++ [a])) (l : List α) : P l := by
  have : ∀ m : List α, P m.reverse := fun m => by
    induction m with
    | nil => exact h0
    | cons a m ih => rw [List.reverse_cons]; exact hs _ _ ih
  simpa using this l.reverse
theorem waits_eq (bs : List Bat) (t : List UInt8) : (∀ b ∈ bs, 0 ≤ b.dst ∧ b.dst < 4) → waits bs t = cntP bs t := by
  refine snoc_ind (P := fun bs => (∀ b ∈ bs, 0 ≤ b.dst ∧ b.dst < 4) → waits bs t = cntP bs t) (fun _ => rfl) (fun l b ih h => ?_) bs
  · have hb := h b (by simp)
    rw [waits_snoc l b hb.1 hb.2, cntP_snoc, ih (fun x hx => h x (by simp [hx]))]
theorem Sim.waits {M : Ag} {R : Rf} (h : Sim M R) (x : List UInt8) : waits M.bs x = cntP R.bs x := by
  rw [h.bs]
  have hd := Cfg.num_d h.good.1
  exact waits_eq M.bs x (fun b hb => ⟨(h.each b hb).1, by have := (h.each b hb).2.1; omega⟩)
theorem Sim.named {M : Ag} {R : Rf} (h : Sim M R) (x : List UInt8) (hx : 0 < cntP R.bs x) : x ∈ R.ns := by
  rw [h.bs] at hx
  unfold cntP at hx
  obtain ⟨b, hb⟩ := List.exists_mem_of_length_pos hx
  rw [List.mem_filter] at hb
  have e : b.ten = x := by have := hb.2; simp at this; exact this.1
  rw [← e]
  exact (h.each b hb.1).2.2.1
end Go.Proofs.YtojpjaifhjigfaaGreatDoor
