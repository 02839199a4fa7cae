/- What a configuration and a list of tenants look like that come in as arguments. -/
import Derived.Test.YtojpjaifhjigfaaGreatDoorOpensLab
import Derived.ProofKit
import Derived.Deep.Slices
import Derived.OpenShut
namespace Go.Proofs.YtojpjaifhjigfaaGreatDoor
open Go.ChangeShapes Go.WideShapes Go.ChangeAt Go.WideMaps Go.WideElems Go.RowKit
set_option maxRecDepth 100000

theorem cellInt {w : World} {r : Reach} {b : Nat} {v : Value} (h : Cell.okWide Tryz.prog w r b 3 v) : ∃ n, v = .int .i64 n := by
  unfold Cell.okWide Cell.ok at h
  simp only [Tryz.underlying3] at h
  cases v <;> simp at h
  exact ⟨_, by rw [h.1]⟩
theorem cellFloat {w : World} {r : Reach} {b : Nat} {v : Value} (h : Cell.okWide Tryz.prog w r b 23 v) : ∃ n, v = .float .f64 n := by
  unfold Cell.okWide Cell.ok at h
  simp only [Tryz.underlying23] at h
  cases v <;> simp at h
  exact ⟨_, by rw [h.1]⟩
theorem cellMap {w : World} {r : Reach} {b : Nat} {v : Value} (h : Cell.okWide Tryz.prog w r b 22 v) : ∃ n, v = .map n := by
  unfold Cell.okWide Cell.ok at h
  simp only [Tryz.underlying22] at h
  cases v <;> simp at h
  exact ⟨_, rfl⟩

theorem cfgTypes : Tryz.prog.cellTypes Tryz.prog.depth 25 = some [3, 22, 3, 3, 3, 3, 3, 3, 3, 23, 3] := by kernel_rfl
theorem cfgCellsOf : Tryz.prog.cellsOf 25 = 11 := by kernel_rfl
theorem tenCells : Tryz.prog.cellsOf 94 = 2 := by kernel_rfl
theorem strCells : Tryz.prog.cellsOf 9 = 1 := by kernel_rfl
theorem intCells : Tryz.prog.cellsOf 3 = 1 := by kernel_rfl
theorem tenBytes : Tryz.prog.bytesOf 94 = 24 := by kernel_rfl

/-- A configuration that comes in is one of eleven cells. -/
theorem cfg_shape {w : World} {r : Reach} {b : Nat} {v : Value} (h : Value.okWide Tryz.prog w r b 25 v) : ∃ (c : Cfg) (m : Option Nat), v = c.val m := by
  unfold Value.okWide at h
  simp only [Tryz.underlying25] at h
  obtain ⟨⟨l⟩, rfl, hsz, ts, hts, _, hc⟩ := h
  rw [cfgCellsOf] at hsz
  rw [cfgTypes] at hts
  obtain rfl := Option.some.inj hts
  match l, hsz with
  | [a0, a1, a2, a3, a4, a5, a6, a7, a8, a9, a10], _ =>
    have g : ∀ (i : Nat) (v : Value) (t : TypeId), #[a0, a1, a2, a3, a4, a5, a6, a7, a8, a9, a10][i]? = some v → [3, 22, 3, 3, 3, 3, 3, 3, 3, 23, 3][i % 11]? = some t → Cell.okWide Tryz.prog w r b t v := fun i v t h1 h2 => by
      obtain ⟨u, hu, hk⟩ := hc i v h1
      have e : u = t := Option.some.inj (hu.symm.trans h2)
      rw [← e]; exact hk
    obtain ⟨n0, rfl⟩ := cellInt (g 0 _ _ rfl rfl)
    obtain ⟨m1, rfl⟩ := cellMap (g 1 _ _ rfl rfl)
    obtain ⟨n2, rfl⟩ := cellInt (g 2 _ _ rfl rfl)
    obtain ⟨n3, rfl⟩ := cellInt (g 3 _ _ rfl rfl)
    obtain ⟨n4, rfl⟩ := cellInt (g 4 _ _ rfl rfl)
    obtain ⟨n5, rfl⟩ := cellInt (g 5 _ _ rfl rfl)
    obtain ⟨n6, rfl⟩ := cellInt (g 6 _ _ rfl rfl)
    obtain ⟨n7, rfl⟩ := cellInt (g 7 _ _ rfl rfl)
    obtain ⟨n8, rfl⟩ := cellInt (g 8 _ _ rfl rfl)
    obtain ⟨n9, rfl⟩ := cellFloat (g 9 _ _ rfl rfl)
    obtain ⟨n10, rfl⟩ := cellInt (g 10 _ _ rfl rfl)
    exact ⟨⟨n0, n2, n3, n4, n5, n6, n7, n8, n9, n10⟩, m1, rfl⟩

theorem exists_list {α : Type} {n : Nat} {Q : Nat → α → Prop} (h : ∀ i, i < n → ∃ x, Q i x) : ∃ l : List α, l.length = n ∧ ∀ i (hi : i < l.length), Q i (l[i]'hi) := by
  induction n with
  | zero => exact ⟨[], rfl, fun i hi => absurd hi (Nat.not_lt_zero _)⟩
  | succ n ih =>
    obtain ⟨l, hl, hq⟩ := ih (fun i hi => h i (by omega))
    obtain ⟨x, hx⟩ := h n (by omega)
    refine ⟨l ++ [x], by simp [hl], fun i hi => ?_⟩
    by_cases hin : i < l.length
    · rw [List.getElem_append_left hin]; exact hq i hin
    · have e : i = l.length := by simp at hi; omega
      subst e
      simp [hl]
      exact hx

/-- A list of tenants that comes in. -/
theorem tenants_of {H : Type} {enc : TypeId × Value → H} {W : World} {a : Option Addr} {len cap : Nat} {d : DataW H} {p : List MemPlace} (h : DataW.Trod enc Tryz.prog W 0 (fun _ => true) true 26 (.slice a len cap) d p) :
    ∃ ts : List (List UInt8 × Int), ts.length = len ∧ TenAt W a ts ∧ (∀ x ∈ ts, x.1.length ≤ maxLen ∧ (Lit.int .i64 x.2).wf = true) ∧ (len = 0 ∨ ∃ elems spare, d = .slice elems spare ∧ elems.length = len) := by
  obtain ⟨fuel, hf⟩ := h
  rcases Go.Deep.open_slice Tryz.underlying26 hf with ⟨h1, _⟩ | ⟨a', len', cap', m, n, D, Pl, h1, _, hl, hm, hmm, hx, hel⟩
  · simp only [Value.cells, List.cons.injEq, Value.slice.injEq, and_true] at h1
    obtain ⟨_, rfl, _⟩ := h1
    exact ⟨[], rfl, Or.inl rfl, fun x hx => (by cases hx), Or.inl rfl⟩
  · simp only [Value.cells, List.cons.injEq, Value.slice.injEq, and_true] at h1
    obtain ⟨rfl, rfl, rfl⟩ := h1
    have hmc : m = cap := by simpa using hmm
    subst hmc
    have hcell : ∀ i, i < len → ∃ (s : List UInt8) (q : Int), W.cell? (a'.add (i * 2)) = some (encStr s) ∧ W.cell? ((a'.add (i * 2)).add 1) = some (.int .i64 q) ∧ s.length ≤ maxLen ∧ (Lit.int .i64 q).wf = true := fun i hi => by
      obtain ⟨cs', hc, ht⟩ := hel i (by omega)
      rw [tenCells] at hc
      obtain ⟨y0, y1, n', _, hlc, t0, t1⟩ := trod_struct2 Tryz.underlying94 ht
      rw [tenCells] at hlc
      match cs', hlc with
      | [c0, c1], _ =>
        obtain ⟨s, e0, _, hs⟩ := DataW.trod_string Tryz.underlying9 t0
        obtain ⟨q, e1, _, hq⟩ := DataW.trod_int Tryz.underlying3 t1
        obtain ⟨_, _, hcc⟩ := World.cells?_some hc
        have k0 := hcc 0 (by omega)
        have k1 := hcc 1 (by omega)
        refine ⟨s.data.toList, q, ?_, ?_, by simpa using hs, hq⟩
        · have e0' : c0 = .string s := by simpa [strCells] using e0
          rw [e0'] at k0
          simpa [Addr.add] using k0
        · have e1' : c1 = .int .i64 q := by simpa [intCells] using e1
          rw [e1'] at k1
          simpa using k1
    obtain ⟨ts, hlen, hts⟩ := exists_list (n := len) (Q := fun i (x : List UInt8 × Int) => W.cell? (a'.add (i * 2)) = some (encStr x.1) ∧ W.cell? ((a'.add (i * 2)).add 1) = some (.int .i64 x.2) ∧ x.1.length ≤ maxLen ∧ (Lit.int .i64 x.2).wf = true) (fun i hi => by
      obtain ⟨s, q, h⟩ := hcell i hi
      exact ⟨(s, q), h⟩)
    have hxd : d = .slice ((List.range len).map D) ((List.range (m - len)).map fun j => D (len + j)) := by simpa using congrArg Prod.fst hx
    refine ⟨ts, hlen, ?_, ?_, Or.inr ⟨_, _, hxd, by simp⟩⟩
    · by_cases h0 : len = 0
      · exact Or.inl (List.eq_nil_of_length_eq_zero (by omega))
      · obtain ⟨b, off, sp⟩ := a'
        have hsp : sp = none := by
          have h1 := (hts 0 (by omega)).1
          cases sp with
          | none => rfl
          | some x =>
            have hlt := World.block_lt_of_cell? W _ h1
            unfold World.cell? at h1
            simp only [Addr.add] at h1
            split at h1
            · split at h1
              · cases h1
              · rename_i hs
                simp at hs
            · cases h1
        subst hsp
        refine Or.inr ⟨b, off, rfl, ?_, fun k hk => ?_⟩
        · have := World.block_lt_of_cell? W _ (hts 0 (by omega)).1
          rw [Addr.add_mid] at this
          exact this
        · have h1 := (hts k hk).1
          have h2 := (hts k hk).2.1
          rw [Addr.add_mid] at h1
          rw [Addr.add_mid, Addr.add_mid] at h2
          exact ⟨h1, h2⟩
    · intro x hx'
      obtain ⟨i, hi, rfl⟩ := List.mem_iff_getElem.1 hx'
      exact (hts i hi).2.2
end Go.Proofs.YtojpjaifhjigfaaGreatDoor
