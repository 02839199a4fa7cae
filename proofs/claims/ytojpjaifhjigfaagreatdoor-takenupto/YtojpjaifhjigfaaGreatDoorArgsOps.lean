/- A script that comes in as an argument. -/
import Derived.Test.YtojpjaifhjigfaaGreatDoorTakenFilter
import Derived.Test.YtojpjaifhjigfaaGreatDoorArgsLab
import Derived.Lib.SmallJoins
namespace Go.Proofs.YtojpjaifhjigfaaGreatDoor
open Go.ChangeShapes Go.WideShapes Go.ChangeAt Go.WideMaps Go.WideElems Go.RowKit
set_option maxRecDepth 100000

theorem opCells : Tryz.prog.cellsOf 47 = 11 := by kernel_rfl
theorem batCells : Tryz.prog.cellsOf 45 = 4 := by kernel_rfl
theorem boolCells : Tryz.prog.cellsOf 4 = 1 := by kernel_rfl

theorem trod_struct8 {H : Type} {enc : TypeId × Value → H} {P : Program} {w : World} {base : Nat} {spare : Nat → Bool} {held : Bool} {t : TypeId} {f0 f1 f2 f3 f4 f5 f6 f7 : Field} {fuel : Nat} {cs : List Value} {x : DataW H × List MemPlace} (ht : P.underlying t = some (.struct #[f0, f1, f2, f3, f4, f5, f6, f7])) (h : DataW.trod enc P w base spare held fuel t cs = some x) :
    ∃ y0 y1 y2 y3 y4 y5 y6 y7 n, x.1 = .agg [y0.1, y1.1, y2.1, y3.1, y4.1, y5.1, y6.1, y7.1] ∧ cs.length = P.cellsOf t ∧ DataW.trod enc P w base spare held n f0.type ((cs.drop f0.offset).take (P.cellsOf f0.type)) = some y0 ∧ DataW.trod enc P w base spare held n f1.type ((cs.drop f1.offset).take (P.cellsOf f1.type)) = some y1 ∧
      DataW.trod enc P w base spare held n f2.type ((cs.drop f2.offset).take (P.cellsOf f2.type)) = some y2 ∧ DataW.trod enc P w base spare held n f3.type ((cs.drop f3.offset).take (P.cellsOf f3.type)) = some y3 ∧ DataW.trod enc P w base spare held n f4.type ((cs.drop f4.offset).take (P.cellsOf f4.type)) = some y4 ∧
      DataW.trod enc P w base spare held n f5.type ((cs.drop f5.offset).take (P.cellsOf f5.type)) = some y5 ∧ DataW.trod enc P w base spare held n f6.type ((cs.drop f6.offset).take (P.cellsOf f6.type)) = some y6 ∧ DataW.trod enc P w base spare held n f7.type ((cs.drop f7.offset).take (P.cellsOf f7.type)) = some y7 := by
  obtain ⟨xs, n, _, rfl, hl, hlen, hf⟩ := DataW.trod_struct ht h
  match xs, hlen with
  | [y0, y1, y2, y3, y4, y5, y6, y7], _ => exact ⟨y0, y1, y2, y3, y4, y5, y6, y7, n, by simp, hl, by simpa using hf 0 f0 rfl, by simpa using hf 1 f1 rfl, by simpa using hf 2 f2 rfl, by simpa using hf 3 f3 rfl, by simpa using hf 4 f4 rfl, by simpa using hf 5 f5 rfl, by simpa using hf 6 f6 rfl, by simpa using hf 7 f7 rfl⟩

theorem wfI {n : Int} (h : (Lit.int .i64 n).wf = true) : -9223372036854775808 ≤ n ∧ n ≤ 9223372036854775807 := by
  simpa [Lit.wf, IntKind.min, IntKind.max, IntKind.signed, IntKind.bits] using h

/-- One step that comes in. -/
theorem op_of {H : Type} {enc : TypeId × Value → H} {W : World} {base : Nat} {spare : Nat → Bool} {held : Bool} {fuel : Nat} {cs : List Value} {x : DataW H × List MemPlace} (h : DataW.trod enc Tryz.prog W base spare held fuel 47 cs = some x) :
    (∃ o : Opn, cs = o.cells ∧ o.Ok) ∧ ∃ l, x.1 = .agg l ∧ l.length = 8 := by
  obtain ⟨y0, y1, y2, y3, y4, y5, y6, y7, n, hx, hl, t0, t1, t2, t3, t4, t5, t6, t7⟩ := trod_struct8 Tryz.underlying47 h
  refine ⟨?_, _, hx, rfl⟩
  rw [opCells] at hl
  match cs, hl with
  | [c0, c1, c2, c3, c4, c5, c6, c7, c8, c9, c10], _ =>
    obtain ⟨z0, z1, z2, z3, n', _, hlb, s0, s1, s2, s3⟩ := Go.Joins.trod_struct4 Tryz.underlying45 t2
    obtain ⟨a0, e0, _, _⟩ := DataW.trod_int Tryz.underlying3 t0
    obtain ⟨a1, e1, _, q1⟩ := DataW.trod_int Tryz.underlying3 t1
    obtain ⟨b0, g0, _, _⟩ := DataW.trod_int Tryz.underlying3 s0
    obtain ⟨b1, g1, _, r1⟩ := DataW.trod_string Tryz.underlying9 s1
    obtain ⟨b2, g2, _, r2⟩ := DataW.trod_string Tryz.underlying9 s2
    obtain ⟨b3, g3, _, r3⟩ := DataW.trod_string Tryz.underlying9 s3
    obtain ⟨a3, e3, _, _⟩ := DataW.trod_int Tryz.underlying3 t3
    obtain ⟨a4, e4, _, q4⟩ := DataW.trod_int Tryz.underlying3 t4
    obtain ⟨a5, e5, _, _⟩ := DataW.trod_int Tryz.underlying3 t5
    obtain ⟨a6, e6, _⟩ := DataW.trod_bool Tryz.underlying4 t6
    obtain ⟨a7, e7, _⟩ := DataW.trod_bool Tryz.underlying4 t7
    simp [intCells, strCells, batCells, boolCells] at e0 e1 g0 g1 g2 g3 e3 e4 e5 e6 e7
    refine ⟨⟨a0, a1, ⟨b0, b1.data.toList, b2.data.toList, b3.data.toList, 0, 0⟩, a3, a4, a5, a6, a7⟩, ?_, ⟨(wfI q1).1, (wfI q1).2, (wfI q4).1, (wfI q4).2, by simpa using r1⟩⟩
    simp [Opn.cells, encStr, e0, e1, g0, g1, g2, g3, e3, e4, e5, e6, e7]

/-- A script that comes in. -/
theorem ops_of {H : Type} {enc : TypeId × Value → H} {W : World} {a : Option Addr} {len cap : Nat} {d : DataW H} {p : List MemPlace} (h : DataW.Trod enc Tryz.prog W 0 (fun _ => true) true 43 (.slice a len cap) d p) :
    ∃ os : List Opn, os.length = len ∧ OpsAt W a os ∧ (∀ o ∈ os, o.Ok) ∧ (len = 0 ∨ ∃ elems spare, d = .slice elems spare ∧ elems.length = len ∧ ∀ e ∈ elems, ∃ l, e = .agg l ∧ l.length = 8) := by
  obtain ⟨fuel, hf⟩ := h
  rcases Go.Deep.open_slice Tryz.underlying43 hf with ⟨h1, _⟩ | ⟨a', len', cap', m, n, D, Pl, h1, _, hl, hm, hmm, hx, hel⟩
  · simp only [Value.cells, List.cons.injEq, Value.slice.injEq, and_true] at h1
    obtain ⟨_, rfl, _⟩ := h1
    exact ⟨[], rfl, Or.inl rfl, fun x hx => (by cases hx), Or.inl rfl⟩
  · simp only [Value.cells, List.cons.injEq, Value.slice.injEq, and_true] at h1
    obtain ⟨rfl, rfl, rfl⟩ := h1
    have hmc : m = cap := by simpa using hmm
    subst hmc
    have hcell : ∀ i, i < len → ∃ o : Opn, o.Ok ∧ ∀ (j : Nat) (v : Value), o.cells[j]? = some v → W.cell? ((a'.add (i * 11)).add j) = some v := fun i hi => by
      obtain ⟨cs', hc, ht⟩ := hel i (by omega)
      rw [opCells] at hc
      obtain ⟨⟨o, rfl, hok⟩, _⟩ := op_of ht
      refine ⟨o, hok, fun j v hv => ?_⟩
      obtain ⟨_, hl', hcc⟩ := World.cells?_some hc
      have hj : j < 11 := by have := (List.getElem?_eq_some_iff.1 hv).1; rw [Opn.cells_length] at this; exact this
      have := hcc j hj
      rw [hv] at this
      exact this
    have hagg : ∀ i, i < len → ∃ l, D i = .agg l ∧ l.length = 8 := fun i hi => by
      obtain ⟨cs', hc, ht⟩ := hel i (by omega)
      exact (op_of ht).2
    obtain ⟨os, hlen, hts⟩ := exists_list (n := len) (Q := fun i (o : Opn) => o.Ok ∧ ∀ (j : Nat) (v : Value), o.cells[j]? = some v → W.cell? ((a'.add (i * 11)).add j) = some v) hcell
    have hxd : d = .slice ((List.range len).map D) ((List.range (m - len)).map fun j => D (len + j)) := by simpa using congrArg Prod.fst hx
    refine ⟨os, hlen, ?_, ?_, Or.inr ⟨_, _, hxd, by simp, fun e he => ?_⟩⟩
    · by_cases h0 : len = 0
      · exact Or.inl (List.eq_nil_of_length_eq_zero (by omega))
      · obtain ⟨b, off, sp⟩ := a'
        have hc0 := (hts 0 (by omega)).2 0 _ rfl
        have hsp : sp = none := by
          have h1 := hc0
          cases sp with
          | none => rfl
          | some x =>
            unfold World.cell? at h1
            simp only [Addr.add] at h1
            split at h1
            · split at h1
              · cases h1
              · rename_i hs
                simp at hs
            · cases h1
        subst hsp
        refine Or.inr ⟨b, off, rfl, ?_, fun k o ho j v hv => ?_⟩
        · have := World.block_lt_of_cell? W _ hc0
          rw [Addr.add_mid, Addr.add_mid] at this
          exact this
        · have hk : k < os.length := (List.getElem?_eq_some_iff.1 ho).1
          have e : os[k] = o := (List.getElem?_eq_some_iff.1 ho).2
          have := (hts k hk).2 j v (by rw [e]; exact hv)
          rw [Addr.add_mid, Addr.add_mid] at this
          exact this
    · intro x hx'
      obtain ⟨i, hi, rfl⟩ := List.mem_iff_getElem.1 hx'
      exact (hts i hi).1
    · obtain ⟨i, hi, rfl⟩ := List.mem_map.1 he
      exact hagg i (List.mem_range.1 hi)
end Go.Proofs.YtojpjaifhjigfaaGreatDoor
