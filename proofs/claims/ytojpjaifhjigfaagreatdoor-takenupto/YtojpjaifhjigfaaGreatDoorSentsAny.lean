/- What the condition on listed sentinels gives (their variables may stand anywhere): each variable's cell holds a pointer of one type, the pointers are different from one another, and each points into a plain block. Of whatever program. -/
import Derived.LaidLaws
import Derived.LaidEql
import Derived.MakeChecks
namespace Go.Proofs.YtojpjaifhjigfaaGreatDoor.Sents
open Go

/-- What the listed sentinels give a walk: gs: their variables' numbers. -/
structure Holds (W : World) (tp : TypeId) (gs : List Nat) (n : Nat) (A : Nat → Addr) : Prop where
  cell : ∀ i, i < n → W.cell? ⟨gs.getD i 0, 0, Option.none⟩ = some (.iface tp (.pointer (some (A i))))
  block : ∀ i, i < n → ∃ c t, W.heap[(A i).block]? = some (.cells c t (0, 0))
  inj : ∀ i j, i < n → j < n → A i = A j → i = j

/-- A list of sentinels, and their variables' numbers. -/
def Listed (P : Program) (ti : TypeId) (nm : String) : List Nat → List (String × DataW Unit) → Prop
  | _, [] => True
  | [], _ => False
  | g :: gs, (n, d) :: r => (∃ text, d = .iface nm (.ptr (.agg [.lit (.string text)]))) ∧ P.globalNamed n = some g ∧ (P.globals[g]?).map (·.type) = some ti ∧ Listed P ti nm gs r

theorem of_laidVars {P : Program} {W : World} {nm : String} {ti tp te ts : TypeId} {ms : Array (String × TypeId)} {f : Field}
    (hi : P.underlying ti = some (.interface ms)) (hrow : ∀ u, P.typeName? 3 u = some nm → u = tp)
    (hp : P.underlying tp = some (.pointer te)) (he : P.underlying te = some (.struct #[f])) (hft : f.type = ts) (hfo : f.offset = 0) (hs : P.underlying ts = some .string) (hc : P.cellsOf te = 1) (hcs : P.cellsOf ts = 1)
    (l : List (String × DataW Unit)) : ∀ (gs : List Nat) (ps : List MemPlace), Listed P ti nm gs l → DataW.LaidVars P W l ps → ps.Nodup →
      (∀ b off, MemPlace.cell b off ∈ ps → (∃ c t, W.heap[b]? = some (.cells c t (0, 0))) ∧ ∀ u v, W.cell? ⟨b, off, Option.none⟩ = some (.iface u v) → Value.okWide P W .any 0 u v) →
      ∃ A : Nat → Addr, (∀ i, i < l.length → W.cell? ⟨gs.getD i 0, 0, Option.none⟩ = some (.iface tp (.pointer (some (A i)))) ∧ MemPlace.cell (A i).block (A i).off ∈ ps ∧ ∃ s, W.cell? (A i) = some (.string s)) ∧ (∀ i j, i < l.length → j < l.length → A i = A j → i = j) := by
  induction l with
  | nil => exact fun _ ps _ _ _ _ => ⟨fun _ => ⟨0, 0, Option.none⟩, fun i hi => absurd hi (Nat.not_lt_zero _), fun i j hi => absurd hi (Nat.not_lt_zero _)⟩
  | cons x r ih =>
    intro gs0 ps hL hv hnd hrows
    obtain ⟨n, d⟩ := x
    cases gs0 with
    | nil => exact absurd hL (by simp [Listed])
    | cons g gs =>
    obtain ⟨⟨text, rfl⟩, hg, ht, hL'⟩ := hL
    obtain ⟨g0, t0, cs0, f0, p0, q0, hg0, ht0, hv0, hd0, hq, rfl⟩ := hv
    obtain rfl := Option.some.inj (hg.symm.trans hg0)
    obtain rfl := Option.some.inj (ht.symm.trans ht0)
    obtain ⟨l0⟩ := cs0
    have ok0 : ∀ u v, l0 = [.iface u v] → Value.okWide P W .any 0 u v := fun u v e => by
      subst e
      exact (hrows g 0 (by simp [MemPlace.row])).2 u v (by simpa using World.var?_cell hg0 hv0 0)
    obtain ⟨a0, s0, rfl, hc0, hs0, hz0, rfl⟩ := errorString_of_trod hi hrow hp he hft hfo hs hc hcs hd0 ok0
    obtain ⟨A, hA, hinj⟩ := ih gs q0 hL' hq (List.Nodup.sublist (List.sublist_append_right _ _) hnd) (fun b off hm => hrows b off (List.mem_append_right _ hm))
    have hcell0 : W.cell? ⟨g, 0, Option.none⟩ = some (.iface tp (.pointer (some a0))) := by simpa using World.var?_cell hg0 hv0 0
    have hdis : ∀ x, x ∈ MemPlace.row a0 1 → x ∈ q0 → False := by
      intro x h1 h2
      have := List.nodup_append.1 hnd
      exact this.2.2 x (List.mem_append_right _ h1) x h2 rfl
    have hne : ∀ i, i < r.length → A i ≠ a0 := fun i hi e => by
      have hm := (hA i hi).2.1
      rw [e] at hm
      exact hdis _ (by simp [MemPlace.row]) hm
    refine ⟨fun i => match i with | 0 => a0 | i + 1 => A i, ?_, ?_⟩
    · intro i hi
      cases i with
      | zero => exact ⟨by simpa using hcell0, by simp [MemPlace.row], s0, hc0⟩
      | succ i =>
        have h := hA i (by simpa using hi)
        refine ⟨?_, List.mem_append_right _ h.2.1, h.2.2⟩
        simpa using h.1
    · intro i j hi hj e
      cases i with
      | zero =>
        cases j with
        | zero => rfl
        | succ j => exact absurd e.symm (hne j (by simpa using hj))
      | succ i =>
        cases j with
        | zero => exact absurd e (hne i (by simpa using hi))
        | succ j => exact congrArg (· + 1) (hinj i j (by simpa using hi) (by simpa using hj) e)

theorem of_laid {P : Program} {W : World} {nm : String} {ti tp te ts : TypeId} {ms : Array (String × TypeId)} {f : Field} {l : List (String × DataW Unit)} {gs : List Nat}
    (hi : P.underlying ti = some (.interface ms)) (hrow : ∀ u, P.typeName? 3 u = some nm → u = tp)
    (hp : P.underlying tp = some (.pointer te)) (he : P.underlying te = some (.struct #[f])) (hft : f.type = ts) (hfo : f.offset = 0) (hs : P.underlying ts = some .string) (hc : P.cellsOf te = 1) (hcs : P.cellsOf ts = 1)
    (hL : Listed P ti nm gs l) (h : laidMet P l W) : ∃ A : Nat → Addr, Holds W tp gs l.length A := by
  obtain ⟨ps, hv, hnd, hrows⟩ := h
  obtain ⟨A, hA, hinj⟩ := of_laidVars hi hrow hp he hft hfo hs hc hcs l gs ps hL hv hnd hrows
  exact ⟨A, fun i h => (hA i h).1, fun i h => (hrows _ _ (hA i h).2.1).1, hinj⟩

end Go.Proofs.YtojpjaifhjigfaaGreatDoor.Sents
