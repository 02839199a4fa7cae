/- Steps of the proof (several texts in one): ArgsLab, ArgsOps, UpTo, SentWalk, ProofBase. -/
import Derived.Test.YtojpjaifhjigfaaGreatDoorMSentupto28
import Derived.ProofKit
import Derived.Deep.Slices
import Derived.OpenShut
import Derived.Lib.SmallJoins
import Derived.Test.YtojpjaifhjigfaaGreatDoorRows
import Derived.Test.YtojpjaifhjigfaaGreatDoorCards
import Derived.Test.YtojpjaifhjigfaaGreatDoorTie
import Derived.Test.YtojpjaifhjigfaaGreatDoorMSentupto03
import Derived.LaidMore
import Derived.Stop.Joined
import Derived.SevenTiedAt

/- What a configuration and a list of tenants look like that come in as arguments. -/
namespace Go.Proofs.YtojpjaifhjigfaaGreatDoor
open Go.ChangeShapes Go.WideShapes Go.ChangeAt Go.WideMaps Go.WideElems Go.RowKit
set_option maxRecDepth 100000

theorem cellInt {w : World} {r : Reach} {b : Nat} {v : Value} (h : Cell.okWide Tryz.prog w r b 3 v) : ∃ n, v = .int .i64 n := by
  unfold Cell.okWide Cell.ok at h
  simp only [Tryz.underlying3] at h
  cases v <;> simp at h
  exact ⟨_, by rw [h.1]⟩
theorem cellFloat {w : World} {r : Reach} {b : Nat} {v : Value} (h : Cell.okWide Tryz.prog w r b 23 v) : ∃ n, v = .float .f64 n := by
  unfold Cell.okWide Cell.ok at h
  simp only [Tryz.underlying23] at h
  cases v <;> simp at h
  exact ⟨_, by rw [h.1]⟩
theorem cellMap {w : World} {r : Reach} {b : Nat} {v : Value} (h : Cell.okWide Tryz.prog w r b 22 v) : ∃ n, v = .map n := by
  unfold Cell.okWide Cell.ok at h
  simp only [Tryz.underlying22] at h
  cases v <;> simp at h
  exact ⟨_, rfl⟩

theorem cfgTypes : Tryz.prog.cellTypes Tryz.prog.depth 25 = some [3, 22, 3, 3, 3, 3, 3, 3, 3, 23, 3] := by kernel_rfl
theorem cfgCellsOf : Tryz.prog.cellsOf 25 = 11 := by kernel_rfl
theorem tenCells : Tryz.prog.cellsOf 94 = 2 := by kernel_rfl
theorem strCells : Tryz.prog.cellsOf 9 = 1 := by kernel_rfl
theorem intCells : Tryz.prog.cellsOf 3 = 1 := by kernel_rfl
theorem tenBytes : Tryz.prog.bytesOf 94 = 24 := by kernel_rfl

/-- A configuration that comes in is one of eleven cells. -/
theorem cfg_shape {w : World} {r : Reach} {b : Nat} {v : Value} (h : Value.okWide Tryz.prog w r b 25 v) : ∃ (c : Cfg) (m : Option Nat), v = c.val m := by
  unfold Value.okWide at h
  simp only [Tryz.underlying25] at h
  obtain ⟨⟨l⟩, rfl, hsz, ts, hts, _, hc⟩ := h
  rw [cfgCellsOf] at hsz
  rw [cfgTypes] at hts
  obtain rfl := Option.some.inj hts
  match l, hsz with
  | [a0, a1, a2, a3, a4, a5, a6, a7, a8, a9, a10], _ =>
    have g : ∀ (i : Nat) (v : Value) (t : TypeId), #[a0, a1, a2, a3, a4, a5, a6, a7, a8, a9, a10][i]? = some v → [3, 22, 3, 3, 3, 3, 3, 3, 3, 23, 3][i % 11]? = some t → Cell.okWide Tryz.prog w r b t v := fun i v t h1 h2 => by
      obtain ⟨u, hu, hk⟩ := hc i v h1
      have e : u = t := Option.some.inj (hu.symm.trans h2)
      rw [← e]; exact hk
    obtain ⟨n0, rfl⟩ := cellInt (g 0 _ _ rfl rfl)
    obtain ⟨m1, rfl⟩ := cellMap (g 1 _ _ rfl rfl)
    obtain ⟨n2, rfl⟩ := cellInt (g 2 _ _ rfl rfl)
    obtain ⟨n3, rfl⟩ := cellInt (g 3 _ _ rfl rfl)
    obtain ⟨n4, rfl⟩ := cellInt (g 4 _ _ rfl rfl)
    obtain ⟨n5, rfl⟩ := cellInt (g 5 _ _ rfl rfl)
    obtain ⟨n6, rfl⟩ := cellInt (g 6 _ _ rfl rfl)
    obtain ⟨n7, rfl⟩ := cellInt (g 7 _ _ rfl rfl)
    obtain ⟨n8, rfl⟩ := cellInt (g 8 _ _ rfl rfl)
    obtain ⟨n9, rfl⟩ := cellFloat (g 9 _ _ rfl rfl)
    obtain ⟨n10, rfl⟩ := cellInt (g 10 _ _ rfl rfl)
    exact ⟨⟨n0, n2, n3, n4, n5, n6, n7, n8, n9, n10⟩, m1, rfl⟩

theorem exists_list {α : Type} {n : Nat} {Q : Nat → α → Prop} (h : ∀ i, i < n → ∃ x, Q i x) : ∃ l : List α, l.length = n ∧ ∀ i (hi : i < l.length), Q i (l[i]'hi) := by
  induction n with
  | zero => exact ⟨[], rfl, fun i hi => absurd hi (Nat.not_lt_zero _)⟩
  | succ n ih =>
    obtain ⟨l, hl, hq⟩ := ih (fun i hi => h i (by omega))
    obtain ⟨x, hx⟩ := h n (by omega)
    refine ⟨l ++ [x], by simp [hl], fun i hi => ?_⟩
    by_cases hin : i < l.length
    · rw [List.getElem_append_left hin]; exact hq i hin
    · have e : i = l.length := by simp at hi; omega
      subst e
      simp [hl]
      exact hx

/-- A list of tenants that comes in. -/
theorem tenants_of {H : Type} {enc : TypeId × Value → H} {W : World} {a : Option Addr} {len cap : Nat} {d : DataW H} {p : List MemPlace} (h : DataW.Trod enc Tryz.prog W 0 (fun _ => true) true 26 (.slice a len cap) d p) :
    ∃ ts : List (List UInt8 × Int), ts.length = len ∧ TenAt W a ts ∧ (∀ x ∈ ts, x.1.length ≤ maxLen ∧ (Lit.int .i64 x.2).wf = true) ∧ (len = 0 ∨ ∃ elems spare, d = .slice elems spare ∧ elems.length = len) := by
  obtain ⟨fuel, hf⟩ := h
  rcases Go.Deep.open_slice Tryz.underlying26 hf with ⟨h1, _⟩ | ⟨a', len', cap', m, n, D, Pl, h1, _, hl, hm, hmm, hx, hel⟩
  · simp only [Value.cells, List.cons.injEq, Value.slice.injEq, and_true] at h1
    obtain ⟨_, rfl, _⟩ := h1
    exact ⟨[], rfl, Or.inl rfl, fun x hx => (by cases hx), Or.inl rfl⟩
  · simp only [Value.cells, List.cons.injEq, Value.slice.injEq, and_true] at h1
    obtain ⟨rfl, rfl, rfl⟩ := h1
    have hmc : m = cap := by simpa using hmm
    subst hmc
    have hcell : ∀ i, i < len → ∃ (s : List UInt8) (q : Int), W.cell? (a'.add (i * 2)) = some (encStr s) ∧ W.cell? ((a'.add (i * 2)).add 1) = some (.int .i64 q) ∧ s.length ≤ maxLen ∧ (Lit.int .i64 q).wf = true := fun i hi => by
      obtain ⟨cs', hc, ht⟩ := hel i (by omega)
      rw [tenCells] at hc
      obtain ⟨y0, y1, n', _, hlc, t0, t1⟩ := trod_struct2 Tryz.underlying94 ht
      rw [tenCells] at hlc
      match cs', hlc with
      | [c0, c1], _ =>
        obtain ⟨s, e0, _, hs⟩ := DataW.trod_string Tryz.underlying9 t0
        obtain ⟨q, e1, _, hq⟩ := DataW.trod_int Tryz.underlying3 t1
        obtain ⟨_, _, hcc⟩ := World.cells?_some hc
        have k0 := hcc 0 (by omega)
        have k1 := hcc 1 (by omega)
        refine ⟨s.data.toList, q, ?_, ?_, by simpa using hs, hq⟩
        · have e0' : c0 = .string s := by simpa [strCells] using e0
          rw [e0'] at k0
          simpa [Addr.add] using k0
        · have e1' : c1 = .int .i64 q := by simpa [intCells] using e1
          rw [e1'] at k1
          simpa using k1
    obtain ⟨ts, hlen, hts⟩ := exists_list (n := len) (Q := fun i (x : List UInt8 × Int) => W.cell? (a'.add (i * 2)) = some (encStr x.1) ∧ W.cell? ((a'.add (i * 2)).add 1) = some (.int .i64 x.2) ∧ x.1.length ≤ maxLen ∧ (Lit.int .i64 x.2).wf = true) (fun i hi => by
      obtain ⟨s, q, h⟩ := hcell i hi
      exact ⟨(s, q), h⟩)
    have hxd : d = .slice ((List.range len).map D) ((List.range (m - len)).map fun j => D (len + j)) := by simpa using congrArg Prod.fst hx
    refine ⟨ts, hlen, ?_, ?_, Or.inr ⟨_, _, hxd, by simp⟩⟩
    · by_cases h0 : len = 0
      · exact Or.inl (List.eq_nil_of_length_eq_zero (by omega))
      · obtain ⟨b, off, sp⟩ := a'
        have hsp : sp = none := by
          have h1 := (hts 0 (by omega)).1
          cases sp with
          | none => rfl
          | some x =>
            have hlt := World.block_lt_of_cell? W _ h1
            unfold World.cell? at h1
            simp only [Addr.add] at h1
            split at h1
            · split at h1
              · cases h1
              · rename_i hs
                simp at hs
            · cases h1
        subst hsp
        refine Or.inr ⟨b, off, rfl, ?_, fun k hk => ?_⟩
        · have := World.block_lt_of_cell? W _ (hts 0 (by omega)).1
          rw [Addr.add_mid] at this
          exact this
        · have h1 := (hts k hk).1
          have h2 := (hts k hk).2.1
          rw [Addr.add_mid] at h1
          rw [Addr.add_mid, Addr.add_mid] at h2
          exact ⟨h1, h2⟩
    · intro x hx'
      obtain ⟨i, hi, rfl⟩ := List.mem_iff_getElem.1 hx'
      exact (hts i hi).2.2
end Go.Proofs.YtojpjaifhjigfaaGreatDoor

/- A script that comes in as an argument. -/
namespace Go.Proofs.YtojpjaifhjigfaaGreatDoor
open Go.ChangeShapes Go.WideShapes Go.ChangeAt Go.WideMaps Go.WideElems Go.RowKit
set_option maxRecDepth 100000

theorem opCells : Tryz.prog.cellsOf 47 = 11 := by kernel_rfl
theorem batCells : Tryz.prog.cellsOf 45 = 4 := by kernel_rfl
theorem boolCells : Tryz.prog.cellsOf 4 = 1 := by kernel_rfl

theorem trod_struct8 {H : Type} {enc : TypeId × Value → H} {P : Program} {w : World} {base : Nat} {spare : Nat → Bool} {held : Bool} {t : TypeId} {f0 f1 f2 f3 f4 f5 f6 f7 : Field} {fuel : Nat} {cs : List Value} {x : DataW H × List MemPlace} (ht : P.underlying t = some (.struct #[f0, f1, f2, f3, f4, f5, f6, f7])) (h : DataW.trod enc P w base spare held fuel t cs = some x) :
    ∃ y0 y1 y2 y3 y4 y5 y6 y7 n, x.1 = .agg [y0.1, y1.1, y2.1, y3.1, y4.1, y5.1, y6.1, y7.1] ∧ cs.length = P.cellsOf t ∧ DataW.trod enc P w base spare held n f0.type ((cs.drop f0.offset).take (P.cellsOf f0.type)) = some y0 ∧ DataW.trod enc P w base spare held n f1.type ((cs.drop f1.offset).take (P.cellsOf f1.type)) = some y1 ∧
      DataW.trod enc P w base spare held n f2.type ((cs.drop f2.offset).take (P.cellsOf f2.type)) = some y2 ∧ DataW.trod enc P w base spare held n f3.type ((cs.drop f3.offset).take (P.cellsOf f3.type)) = some y3 ∧ DataW.trod enc P w base spare held n f4.type ((cs.drop f4.offset).take (P.cellsOf f4.type)) = some y4 ∧
      DataW.trod enc P w base spare held n f5.type ((cs.drop f5.offset).take (P.cellsOf f5.type)) = some y5 ∧ DataW.trod enc P w base spare held n f6.type ((cs.drop f6.offset).take (P.cellsOf f6.type)) = some y6 ∧ DataW.trod enc P w base spare held n f7.type ((cs.drop f7.offset).take (P.cellsOf f7.type)) = some y7 := by
  obtain ⟨xs, n, _, rfl, hl, hlen, hf⟩ := DataW.trod_struct ht h
  match xs, hlen with
  | [y0, y1, y2, y3, y4, y5, y6, y7], _ => exact ⟨y0, y1, y2, y3, y4, y5, y6, y7, n, by simp, hl, by simpa using hf 0 f0 rfl, by simpa using hf 1 f1 rfl, by simpa using hf 2 f2 rfl, by simpa using hf 3 f3 rfl, by simpa using hf 4 f4 rfl, by simpa using hf 5 f5 rfl, by simpa using hf 6 f6 rfl, by simpa using hf 7 f7 rfl⟩

theorem wfI {n : Int} (h : (Lit.int .i64 n).wf = true) : -9223372036854775808 ≤ n ∧ n ≤ 9223372036854775807 := by
  simpa [Lit.wf, IntKind.min, IntKind.max, IntKind.signed, IntKind.bits] using h

/-- One step that comes in. -/
theorem op_of {H : Type} {enc : TypeId × Value → H} {W : World} {base : Nat} {spare : Nat → Bool} {held : Bool} {fuel : Nat} {cs : List Value} {x : DataW H × List MemPlace} (h : DataW.trod enc Tryz.prog W base spare held fuel 47 cs = some x) :
    (∃ o : Opn, cs = o.cells ∧ o.Ok) ∧ ∃ l, x.1 = .agg l ∧ l.length = 8 := by
  obtain ⟨y0, y1, y2, y3, y4, y5, y6, y7, n, hx, hl, t0, t1, t2, t3, t4, t5, t6, t7⟩ := trod_struct8 Tryz.underlying47 h
  refine ⟨?_, _, hx, rfl⟩
  rw [opCells] at hl
  match cs, hl with
  | [c0, c1, c2, c3, c4, c5, c6, c7, c8, c9, c10], _ =>
    obtain ⟨z0, z1, z2, z3, n', _, hlb, s0, s1, s2, s3⟩ := Go.Joins.trod_struct4 Tryz.underlying45 t2
    obtain ⟨a0, e0, _, _⟩ := DataW.trod_int Tryz.underlying3 t0
    obtain ⟨a1, e1, _, q1⟩ := DataW.trod_int Tryz.underlying3 t1
    obtain ⟨b0, g0, _, _⟩ := DataW.trod_int Tryz.underlying3 s0
    obtain ⟨b1, g1, _, r1⟩ := DataW.trod_string Tryz.underlying9 s1
    obtain ⟨b2, g2, _, r2⟩ := DataW.trod_string Tryz.underlying9 s2
    obtain ⟨b3, g3, _, r3⟩ := DataW.trod_string Tryz.underlying9 s3
    obtain ⟨a3, e3, _, _⟩ := DataW.trod_int Tryz.underlying3 t3
    obtain ⟨a4, e4, _, q4⟩ := DataW.trod_int Tryz.underlying3 t4
    obtain ⟨a5, e5, _, _⟩ := DataW.trod_int Tryz.underlying3 t5
    obtain ⟨a6, e6, _⟩ := DataW.trod_bool Tryz.underlying4 t6
    obtain ⟨a7, e7, _⟩ := DataW.trod_bool Tryz.underlying4 t7
    simp [intCells, strCells, batCells, boolCells] at e0 e1 g0 g1 g2 g3 e3 e4 e5 e6 e7
    refine ⟨⟨a0, a1, ⟨b0, b1.data.toList, b2.data.toList, b3.data.toList, 0, 0⟩, a3, a4, a5, a6, a7⟩, ?_, ⟨(wfI q1).1, (wfI q1).2, (wfI q4).1, (wfI q4).2, by simpa using r1⟩⟩
    simp [Opn.cells, encStr, e0, e1, g0, g1, g2, g3, e3, e4, e5, e6, e7]

/-- A script that comes in. -/
theorem ops_of {H : Type} {enc : TypeId × Value → H} {W : World} {a : Option Addr} {len cap : Nat} {d : DataW H} {p : List MemPlace} (h : DataW.Trod enc Tryz.prog W 0 (fun _ => true) true 43 (.slice a len cap) d p) :
    ∃ os : List Opn, os.length = len ∧ OpsAt W a os ∧ (∀ o ∈ os, o.Ok) ∧ (len = 0 ∨ ∃ elems spare, d = .slice elems spare ∧ elems.length = len ∧ ∀ e ∈ elems, ∃ l, e = .agg l ∧ l.length = 8) := by
  obtain ⟨fuel, hf⟩ := h
  rcases Go.Deep.open_slice Tryz.underlying43 hf with ⟨h1, _⟩ | ⟨a', len', cap', m, n, D, Pl, h1, _, hl, hm, hmm, hx, hel⟩
  · simp only [Value.cells, List.cons.injEq, Value.slice.injEq, and_true] at h1
    obtain ⟨_, rfl, _⟩ := h1
    exact ⟨[], rfl, Or.inl rfl, fun x hx => (by cases hx), Or.inl rfl⟩
  · simp only [Value.cells, List.cons.injEq, Value.slice.injEq, and_true] at h1
    obtain ⟨rfl, rfl, rfl⟩ := h1
    have hmc : m = cap := by simpa using hmm
    subst hmc
    have hcell : ∀ i, i < len → ∃ o : Opn, o.Ok ∧ ∀ (j : Nat) (v : Value), o.cells[j]? = some v → W.cell? ((a'.add (i * 11)).add j) = some v := fun i hi => by
      obtain ⟨cs', hc, ht⟩ := hel i (by omega)
      rw [opCells] at hc
      obtain ⟨⟨o, rfl, hok⟩, _⟩ := op_of ht
      refine ⟨o, hok, fun j v hv => ?_⟩
      obtain ⟨_, hl', hcc⟩ := World.cells?_some hc
      have hj : j < 11 := by have := (List.getElem?_eq_some_iff.1 hv).1; rw [Opn.cells_length] at this; exact this
      have := hcc j hj
      rw [hv] at this
      exact this
    have hagg : ∀ i, i < len → ∃ l, D i = .agg l ∧ l.length = 8 := fun i hi => by
      obtain ⟨cs', hc, ht⟩ := hel i (by omega)
      exact (op_of ht).2
    obtain ⟨os, hlen, hts⟩ := exists_list (n := len) (Q := fun i (o : Opn) => o.Ok ∧ ∀ (j : Nat) (v : Value), o.cells[j]? = some v → W.cell? ((a'.add (i * 11)).add j) = some v) hcell
    have hxd : d = .slice ((List.range len).map D) ((List.range (m - len)).map fun j => D (len + j)) := by simpa using congrArg Prod.fst hx
    refine ⟨os, hlen, ?_, ?_, Or.inr ⟨_, _, hxd, by simp, fun e he => ?_⟩⟩
    · by_cases h0 : len = 0
      · exact Or.inl (List.eq_nil_of_length_eq_zero (by omega))
      · obtain ⟨b, off, sp⟩ := a'
        have hc0 := (hts 0 (by omega)).2 0 _ rfl
        have hsp : sp = none := by
          have h1 := hc0
          cases sp with
          | none => rfl
          | some x =>
            unfold World.cell? at h1
            simp only [Addr.add] at h1
            split at h1
            · split at h1
              · cases h1
              · rename_i hs
                simp at hs
            · cases h1
        subst hsp
        refine Or.inr ⟨b, off, rfl, ?_, fun k o ho j v hv => ?_⟩
        · have := World.block_lt_of_cell? W _ hc0
          rw [Addr.add_mid, Addr.add_mid] at this
          exact this
        · have hk : k < os.length := (List.getElem?_eq_some_iff.1 ho).1
          have e : os[k] = o := (List.getElem?_eq_some_iff.1 ho).2
          have := (hts k hk).2 j v (by rw [e]; exact hv)
          rw [Addr.add_mid, Addr.add_mid] at this
          exact this
    · intro x hx'
      obtain ⟨i, hi, rfl⟩ := List.mem_iff_getElem.1 hx'
      exact (hts i hi).1
    · obtain ⟨i, hi, rfl⟩ := List.mem_map.1 he
      exact hagg i (List.mem_range.1 hi)
end Go.Proofs.YtojpjaifhjigfaaGreatDoor

/- conduitlaw.UpTo, up to the seventh kind. -/
namespace Go.Proofs.YtojpjaifhjigfaaGreatDoor
open Go.RowKit Go.Maps
attribute [local go_sem] run_store_float

/-- Two configurations, as an array's cells. -/
def twoCfg (c d : Cfg) (m m' : Option Nat) : List Value := (c.cells m).toList ++ (d.cells m').toList
theorem infoTwo : (Tryz.prog.info? 30).map (·.size) = some 22 := by kernel_rfl

theorem twoOne (c d : Cfg) (m m' : Option Nat) : ∀ v ∈ twoCfg c d m m', v.oneCell' = true := by
  intro v hv
  simp [twoCfg] at hv
  rcases hv with rfl | rfl | rfl | rfl | rfl | rfl | rfl | rfl | rfl | rfl | rfl | rfl | rfl | rfl | rfl | rfl | rfl | rfl | rfl | rfl | rfl | rfl <;> rfl

set_option maxRecDepth 100000 in
set_option maxHeartbeats 4000000 in
theorem upTo_any (A : Nat → Addr) (c d : Cfg) (m m' : Option Nat) (D D' : DataW Unit) (sa : Option Addr) (sk : Nat) (os : List Opn) (w : World) (hS : Sents.Holds w 260 gl 11 A) (hM : MapAt w m D) (hM' : MapAt w m' D')
    (hO : OpsAt w sa os) (hOk : ∀ o ∈ os, o.Ok) (hn : os.length ≤ 400000) :
    Calls Tryz.prog 20 #[.agg (twoCfg c d m m').toArray, .slice sa os.length sk, .int .i64 7] w fun e w' => e = .returned (.int .i64 (-1)) ∧ Below w.heap.size w w' := by
  have HS := hide hS
  have HM := hide hM
  have HM' := hide hM'
  have HO := hide hO
  have HOk := hide hOk
  generalize hN : os.length = n at *
  have HN := hide hN
  clear hS hM hM' hO hOk hN
  go_enter Tryz.func20, Tryz.ntmps20
  go_wp2_with fail
  refine (example_any _).mono ?_
  rintro e w1 ⟨g1, rfl, hE, hb1⟩
  have HKt1 : Hid (Blk w1 w.heap.size (twoCfg c d m m').toArray 30) := (Blk.new w _ _).below hb1 (by simp)
  have Hb1 : Hid (Below w.heap.size w w1) := ((Below.refl _ _).alloc (Nat.le_refl _) _).trans (hb1.mono (by simp))
  have HE := hide hE
  have hz1 : w.heap.size < w1.heap.size := HKt1.out.lt
  clear hb1 hE
  go_upto_region 3 with fail
  generalize hV2 : World.alloc (World.alloc w1 _) _ = V2
  have hKe : Blk V2 w1.heap.size (exCfg.cells none) 25 := by rw [← hV2]; exact (Blk.new w1 _ _).alloc _
  have hKw : Blk V2 (w1.heap.size + 1) (wc7 zeroCfg zeroCfg none none) 38 := by rw [← hV2]; exact Blk.made (by simp) _ _
  have hbV2 : Below w1.heap.size w1 V2 := by rw [← hV2]; exact ((Below.refl _ _).alloc (Nat.le_refl _) _).alloc (by simp) _
  have HE2 : Hid (TenAt V2 (some ⟨g1, 0, none⟩) exTs) := tenAt_below HE.out hbV2
  obtain ⟨e0, e1, e2, e3, e4, e5, e6, e7, e8, e9, e10⟩ : V2.cell? ⟨w1.heap.size, 0, none⟩ = some (.int .i64 exCfg.d) ∧ V2.cell? ⟨w1.heap.size, 1, none⟩ = some (.map (none)) ∧ V2.cell? ⟨w1.heap.size, 2, none⟩ = some (.int .i64 exCfg.q) ∧ V2.cell? ⟨w1.heap.size, 3, none⟩ = some (.int .i64 exCfg.at') ∧ V2.cell? ⟨w1.heap.size, 4, none⟩ = some (.int .i64 exCfg.ba) ∧ V2.cell? ⟨w1.heap.size, 5, none⟩ = some (.int .i64 exCfg.ca) ∧ V2.cell? ⟨w1.heap.size, 6, none⟩ = some (.int .i64 exCfg.ti) ∧ V2.cell? ⟨w1.heap.size, 7, none⟩ = some (.int .i64 exCfg.wi) ∧ V2.cell? ⟨w1.heap.size, 8, none⟩ = some (.int .i64 exCfg.le) ∧ V2.cell? ⟨w1.heap.size, 9, none⟩ = some (.float .f64 exCfg.th) ∧ V2.cell? ⟨w1.heap.size, 10, none⟩ = some (.int .i64 exCfg.op) := ⟨hKe.cell 0, hKe.cell 1, hKe.cell 2, hKe.cell 3, hKe.cell 4, hKe.cell 5, hKe.cell 6, hKe.cell 7, hKe.cell 8, hKe.cell 9, hKe.cell 10⟩
  have hV2l : w1.heap.size < V2.heap.size := hKe.lt
  have HKt2 : Hid (Blk V2 w.heap.size (twoCfg c d m m').toArray 30) := HKt1.out.below hbV2 hz1
  have HbV2 : Hid (Below w.heap.size w V2) := Hb1.out.trans (hbV2.mono (by omega))
  obtain ⟨G, hG⟩ : ∃ G, w1.heap.size + 1 = G := ⟨_, rfl⟩
  rw [hG] at hKw ⊢
  have hV2g : G < V2.heap.size := hKw.lt
  have HKw := hide hKw
  have HGe := hide hG
  have hfar := fun (W : World) (o o' : Nat) (v : Value) => cell_far W o o' v (show w1.heap.size ≠ G by omega)
  clear hV2 hKw hKe hbV2 HKt1 Hb1 HE
  go_cut [] (fun wx => ∃ b1 n1, Blk wx G (splice (wc7 zeroCfg zeroCfg none none) 0 (exCfg.cells (some b1)).toList) 38 ∧ OM wx b1 n1 (DT exTs) ∧ n1 ≤ big ∧ b1 ≠ G ∧ Below G V2 wx)
  case first =>
    go_region_held3 (fun w' => w'.cell? ⟨w1.heap.size, 0, none⟩ = some (.int .i64 exCfg.d) ∧ w'.cell? ⟨w1.heap.size, 1, none⟩ = some (.map (none)) ∧ w'.cell? ⟨w1.heap.size, 2, none⟩ = some (.int .i64 exCfg.q) ∧ w'.cell? ⟨w1.heap.size, 3, none⟩ = some (.int .i64 exCfg.at') ∧ w'.cell? ⟨w1.heap.size, 4, none⟩ = some (.int .i64 exCfg.ba) ∧ w'.cell? ⟨w1.heap.size, 5, none⟩ = some (.int .i64 exCfg.ca) ∧ w'.cell? ⟨w1.heap.size, 6, none⟩ = some (.int .i64 exCfg.ti) ∧ w'.cell? ⟨w1.heap.size, 7, none⟩ = some (.int .i64 exCfg.wi) ∧ w'.cell? ⟨w1.heap.size, 8, none⟩ = some (.int .i64 exCfg.le) ∧ w'.cell? ⟨w1.heap.size, 9, none⟩ = some (.float .f64 exCfg.th) ∧ w'.cell? ⟨w1.heap.size, 10, none⟩ = some (.int .i64 exCfg.op)) (go_keep)
      (first
        | (go_at_call 15; refine (config_ex g1 _ (tenAt_drew HE2.out)).mono ?_; rintro e w3 ⟨m1, rfl, hM1, hm1, hb3⟩; have hc3 := fun o => hb3.cell (p := ⟨w1.heap.size, o, none⟩) hV2l; have hK3 : Blk w3 G _ 38 := Blk.below (w := V2.drew) HKw.out hb3 HKw.out.lt; obtain ⟨z0, z1, z2, z3, z4, z5, z6, z7, z8, z9, z10⟩ : w3.cell? ⟨G, 0, none⟩ = some (.int .i64 zeroCfg.d) ∧ w3.cell? ⟨G, 1, none⟩ = some (.map (none)) ∧ w3.cell? ⟨G, 2, none⟩ = some (.int .i64 zeroCfg.q) ∧ w3.cell? ⟨G, 3, none⟩ = some (.int .i64 zeroCfg.at') ∧ w3.cell? ⟨G, 4, none⟩ = some (.int .i64 zeroCfg.ba) ∧ w3.cell? ⟨G, 5, none⟩ = some (.int .i64 zeroCfg.ca) ∧ w3.cell? ⟨G, 6, none⟩ = some (.int .i64 zeroCfg.ti) ∧ w3.cell? ⟨G, 7, none⟩ = some (.int .i64 zeroCfg.wi) ∧ w3.cell? ⟨G, 8, none⟩ = some (.int .i64 zeroCfg.le) ∧ w3.cell? ⟨G, 9, none⟩ = some (.float .f64 zeroCfg.th) ∧ w3.cell? ⟨G, 10, none⟩ = some (.int .i64 zeroCfg.op) := ⟨hK3.cell 0, hK3.cell 1, hK3.cell 2, hK3.cell 3, hK3.cell 4, hK3.cell 5, hK3.cell 6, hK3.cell 7, hK3.cell 8, hK3.cell 9, hK3.cell 10⟩; have hfz := fun o => hK3.frozen o; have HK3 := hide hK3; have HM1 := hide hM1; have Hm1 := hide hm1; have Hb3 := hide hb3; clear hK3 hM1 hm1 hb3))
    all_goals
      go_wp2_with fail
      go_meet
      generalize hX : (World.setCell (World.setCell (World.setCell (World.setCell (World.setCell (World.setCell (World.setCell (World.setCell (World.setCell (World.setCell (World.setCell w3 _ _) _ _) _ _) _ _) _ _) _ _) _ _) _ _) _ _) _ _) _ _) = X
      have hX' : w3.setCells G 0 (exCfg.cells m1).toList = X := hX
      clear hX
      subst hX'
      obtain ⟨b1, n1, rfl, h2, h3⟩ : ∃ b1 n1, m1 = some b1 ∧ OM w3 b1 n1 (DT exTs) ∧ n1 ≤ big := by
        rcases HM1.out with ⟨_, h⟩ | ⟨b, n, h1, h2, h3⟩
        · exact absurd ex_good.2.1.1.1 (by rw [h]; simp [Maps.size])
        · exact ⟨b, n, h1, h2, h3⟩
      have hb1 : V2.heap.size ≤ b1 := Hm1.out b1 rfl
      refine ⟨b1, n1, HK3.out.setCells _ 0, ?_, h3, by omega, ?_⟩
      · obtain ⟨es, clock, q1, q2⟩ := h2
        exact ⟨es, clock, by rw [heap_setCells _ 0 (by omega)]; exact q1, q2⟩
      · exact below_setCells (Nat.le_refl _) _ 0 ((Below.refl G V2).drew.trans (Hb3.out.mono (show G ≤ V2.heap.size by omega)))
  case rest =>
  obtain ⟨b1, n1, hKw3, hO1, hn1, hbG, hB3⟩ := hcut
  generalize hwc : wc = V3 at *
  clear hwc e0 e1 e2 e3 e4 e5 e6 e7 e8 e9 e10 hfar
  have hB : Below w.heap.size w V3 := HbV2.out.trans (hB3.mono (by omega))
  have HKt3 : Hid (Blk V3 w.heap.size (twoCfg c d m m').toArray 30) := HKt2.out.below hB3 (by omega)
  have HB := hide hB
  have HKw3 := hide hKw3
  have HO1 := hide hO1
  have hG3 : G < V3.heap.size := hKw3.lt
  clear hKw3 hO1 hB3 hB HKt2 HbV2 HKw
  go_wp2_with fail
  generalize hW0 : World.alloc V3 _ = W0
  have hKf : Blk W0 V3.heap.size (firstOps.flatMap Opn.cells).toArray 47 := by rw [← hW0]; exact Blk.new V3 _ _
  have hB0 : Below V3.heap.size V3 W0 := by rw [← hW0]; exact (Below.refl _ _).alloc (Nat.le_refl _) _
  obtain ⟨L0, hL0⟩ : ∃ L0 : Labs, L0 = fun k => if k = G then bl 2 0 else none := ⟨_, rfl⟩
  have hLG : L0 G = bl 2 0 := by rw [hL0]; simp
  have hLo : ∀ k, k ≠ G → L0 k = none := fun k hk => by rw [hL0]; exact if_neg hk
  have hlen : (exCfg.cells (some b1)).toList.length = 11 := rfl
  have hKw0 := HKw3.out.below hB0 hG3
  have hBw0 : Below w.heap.size w W0 := HB.out.trans (hB0.mono (by omega))
  have hW : WAt W0 L0 G A (splice (wc7 zeroCfg zeroCfg none none) 0 (exCfg.cells (some b1)).toList) ⟨.slice none 0 0, .slice none 0 0, .slice none 0 0, .slice none 0 0, 0, 0, 0, 0, 0, []⟩ := by
    refine ⟨⟨hKw0, hLG⟩, (splice_out _ _ _ 22 (by rw [hlen]; omega)).trans rfl, (splice_out _ _ _ 23 (by rw [hlen]; omega)).trans rfl, (splice_out _ _ _ 24 (by rw [hlen]; omega)).trans rfl, (splice_out _ _ _ 25 (by rw [hlen]; omega)).trans rfl, RowAt.nil _ _ _ _ _, fun i v hv => by simp at hv, ⟨[], RowAt.nil _ _ _ _ _, fun i v hv => by simp at hv⟩, SendsAt.nil _ _, ⟨[], RowAt.nil _ _ _ _ _, fun i v hv => by simp at hv⟩, ⟨HS.out.below hBw0, fun i hi => ?_, fun i hi => ?_⟩⟩
    · have := World.block_lt_of_cell? w _ (HS.out.cell i hi)
      exact hLo _ (by have h2 : gl.getD i 0 < w.heap.size := this; omega)
    · obtain ⟨cc, tt, hcc⟩ := HS.out.block i hi
      have := (Array.getElem?_eq_some_iff.1 hcc).1
      exact hLo _ (by omega)
  have hc0 : CfgAt W0 L0 (splice (wc7 zeroCfg zeroCfg none none) 0 (exCfg.cells (some b1)).toList) 0 exCfg (some b1) (DT exTs) := ⟨fun j v hv => splice_in _ _ _ _ _ (by show 0 + 11 ≤ 27; omega) (by simpa using hv), Or.inr ⟨b1, n1, rfl, om_below HO1.out hB0 HO1.out.lt, hn1⟩, fun b hb => by cases hb; exact hLo _ hbG⟩
  have hc1 : CfgAt W0 L0 (splice (wc7 zeroCfg zeroCfg none none) 0 (exCfg.cells (some b1)).toList) 1 zeroCfg none (.map []) := ⟨fun j v hv => (splice_out _ _ _ _ (by rw [hlen]; omega)).trans (wc7_one hv), Or.inl ⟨rfl, rfl⟩, fun b hb => by cases hb⟩
  have h26 : (splice (wc7 zeroCfg zeroCfg none none) 0 (exCfg.cells (some b1)).toList)[26]? = some (.int .i64 7) := (splice_out _ _ _ 26 (by rw [hlen]; omega)).trans rfl
  have HPl : Hid (Played W0 L0 G A exCfg zeroCfg (some b1) none (DT exTs) (.map []) 0 W0) := ⟨L0, _, _, hW, hc0, hc1, h26, ⟨fun h => by omega, by show 0 ≤ 1 + 0; omega, rfl, by show 0 ≤ 8 * 0; omega, rfl, by show 0 ≤ 4 * 0; omega, by show 0 ≤ 2 * 0; omega, rfl⟩, Step.refl _ _ _⟩
  have HLo := hide hLo
  have HKf := hide hKf
  have HBw0 := hide hBw0
  have HKt0 : Hid (Blk W0 w.heap.size (twoCfg c d m m').toArray 30) := HKt3.out.below hB0 (by omega)
  generalize hF : V3.heap.size = F at *
  have hFG : F ≠ G := by omega
  have hWz : F < W0.heap.size := HKf.out.lt
  clear hW0 hKf hB0 hL0 hLG hLo hlen hKw0 hBw0 hW hc0 hc1 h26 hF HKt3 HKw3 HO1 HB
  go_loopw [11, 12] (fun q _ wr => ∃ t : Nat, t ≤ 4 ∧ q = .int .i64 t ∧ Played W0 L0 G A exCfg zeroCfg (some b1) none (DT exTs) (.map []) t wr) (fun q _ _ => 4 - (intOf q).toNat)
  case atStart => exact ⟨0, Nat.zero_le _, rfl, HPl.out⟩
  case round =>
    obtain ⟨t, ht, rfl, hP⟩ := hrel
    have HP := hide hP
    clear hP
    by_cases hlt : t < 4
    · have hltI : (t : Int) < 4 := by omega
      obtain ⟨o, ho⟩ : ∃ o, firstOps[t]? = some o := ⟨_, List.getElem?_eq_getElem hlt⟩
      obtain ⟨⟨L8, hs8⟩, hG8⟩ := HP.out.kept
      have hR : wr.rangeAt F (t * 11) o.cells := by
        have hb : Blk wr F (firstOps.flatMap Opn.cells).toArray 47 := by
          unfold Blk
          rw [hs8.block F HKf.out.lt (by rw [HLo.out F hFG]; simp [someP])]
          exact HKf.out
        exact flat_range hb (fun j v hv => by simpa using hv) ho
      have HR := hide hR
      have hFl : F < wr.heap.size := Nat.lt_of_lt_of_le HKf.out.lt hs8.size
      have HSt : Hid (Calls Tryz.prog 18 #[.pointer (some ⟨G, 0, none⟩), o.val] wr fun e w' => e = .returned (.bool true) ∧ Played W0 L0 G A exCfg zeroCfg (some b1) none (DT exTs) (.map []) (t + 1) w') := by
        by_cases h0 : t = 0
        · subst h0
          have eo : firstOps[0]? = some o := ho
          have e1 : o = ⟨1, 0, ⟨0, [], [], [], 0, 0⟩, 0, 0, 0, false, false⟩ := by simpa [firstOps] using eo.symm
          exact HP.out.open ex_good o (firstOk o (List.mem_of_getElem? ho)) (by rw [e1]) (by rw [e1]; rfl)
        · exact HP.out.step (by omega) (by omega) o (firstOk o (List.mem_of_getElem? ho))
      unfold Opn.val Opn.cells at HSt
      clear hR hs8
      go_wp2_with (first
        | (refine wpList_load_mid rfl 47 _ rfl F (t * 11) rfl [.int .i64 o.k, .int .i64 o.ag, .int .i64 o.b.dst, encStr o.b.ten, encStr o.b.id, encStr o.b.body, .int .i64 o.d, .int .i64 o.ms, .int .i64 o.dr, .bool o.gd, .bool o.ys] _ HR.out Tryz.underlying47 rfl infoOp ?_)
        | fail)
      refine HSt.out.mono ?_
      rintro e w4 ⟨rfl, hP4⟩
      have HP4 := hide hP4
      clear hP4
      go_wp2_with fail
      go_roundw
      case rel => exact ⟨t + 1, by omega, by go_num, HP4.out⟩
      case measure => simp [intOf]; omega
    · obtain rfl : t = 4 := by omega
      have hold : ∀ B, B ≤ G → B ≤ W0.heap.size → Below B W0 wr := fun B h1 h2 => HP.out.old h2 (fun k hk => HLo.out k (by omega))
      have hBr : Below w.heap.size w wr := HBw0.out.trans (hold _ (by omega) (by omega))
      have hKt : Blk wr w.heap.size (twoCfg c d m m').toArray 30 := HKt0.out.below (hold (w.heap.size + 1) (by omega) (by omega)) (by omega)
      have HKt := hide hKt
      have hn0 : ∀ b, m = some b → L0 b = none ∧ b < W0.heap.size := fun b hb => by
        rcases HM.out with ⟨h1, _⟩ | ⟨b', n', h1, h2, _⟩
        · rw [h1] at hb; cases hb
        · rw [h1] at hb; cases hb
          have := h2.lt
          exact ⟨HLo.out _ (by omega), by have := HBw0.out.size; omega⟩
      have hn1 : ∀ b, m' = some b → L0 b = none ∧ b < W0.heap.size := fun b hb => by
        rcases HM'.out with ⟨h1, _⟩ | ⟨b', n', h1, h2, _⟩
        · rw [h1] at hb; cases hb
        · rw [h1] at hb; cases hb
          have := h2.lt
          exact ⟨HLo.out _ (by omega), by have := HBw0.out.size; omega⟩
      have HPs : Hid (Played W0 L0 G A c d m m' D D' 4 (wr.setCells G 0 (twoCfg c d m m'))) := HP.out.stored (HM.out.below hBr (Nat.le_refl _)) (HM'.out.below hBr (Nat.le_refl _)) hn0 hn1
      have hthere : wr.there G 0 22 := by
        obtain ⟨L, cur, X, q1, _⟩ := HP.out
        have := (Array.getElem?_eq_some_iff.1 q1.c25).1
        exact q1.blk.1.there 0 22 (by omega)
      have Hth := hide hthere
      have hG4 := HP.out.kept.2
      have hwr4 := hKt.lt
      clear hold hBr hKt hn0 hn1 hthere
      go_wp2_with (first
        | (refine wpList_load_mid rfl 30 _ rfl w.heap.size 0 rfl (twoCfg c d m m') _ (HKt.out.range 0 _ rfl) Tryz.underlying30 rfl infoTwo ?_)
        | (refine wpList_store_mid rfl 30 _ _ rfl G 0 (twoCfg c d m m').toArray rfl rfl Hth.out infoTwo (all_oneCell_toArray (twoOne c d m m')) ?_)
        | fail)
      generalize hY : World.setCells wr G 0 _ = Y
      have HPy : Hid (Played W0 L0 G A c d m m' D D' 4 Y) := by rw [← hY]; exact HPs.out
      clear hY HP HPs Hth HKt hG4 hwr4
      go_loopw [13, 14, 15] (fun q _ _ wr => ∃ t : Nat, t ≤ n ∧ q = .int .i64 t ∧ Played W0 L0 G A c d m m' D D' (4 + t) wr) (fun q _ _ _ => n - (intOf q).toNat)
      case atStart => exact ⟨0, Nat.zero_le _, rfl, HPy.out⟩
      case round =>
        obtain ⟨t, ht, rfl, hP⟩ := hrel
        have HP := hide hP
        clear hP
        by_cases hlt : t < n
        · have hltI : (t : Int) < (n : Int) := by omega
          obtain ⟨o, ho⟩ : ∃ o, os[t]? = some o := ⟨_, List.getElem?_eq_getElem (by rw [HN.out]; exact hlt)⟩
          have hBr : Below w.heap.size w wr := HBw0.out.trans (HP.out.old HBw0.out.size (fun k hk => HLo.out k (by omega)))
          obtain ⟨b, off, rfl, hbl, hcs⟩ : ∃ b off, sa = some ⟨b, off, none⟩ ∧ b < wr.heap.size ∧ wr.rangeAt b (off + t * 11) o.cells := by
            rcases HO.out.below hBr with h | ⟨b, off, h1, h2, h3⟩
            · rw [h] at ho; cases ho
            · exact ⟨b, off, h1, h2, h3 t o ho⟩
          have HR := hide hcs
          have HSt := hide (HP.out.step (by omega) (by omega) o (HOk.out o (List.mem_of_getElem? ho)))
          have hG8 := HP.out.kept.2
          unfold Opn.val Opn.cells at HSt
          clear hcs hBr
          go_wp2_with (first
            | (refine wpList_load_mid rfl 47 _ rfl b (off + t * 11) rfl [.int .i64 o.k, .int .i64 o.ag, .int .i64 o.b.dst, encStr o.b.ten, encStr o.b.id, encStr o.b.body, .int .i64 o.d, .int .i64 o.ms, .int .i64 o.dr, .bool o.gd, .bool o.ys] _ HR.out Tryz.underlying47 rfl infoOp ?_)
            | fail)
          refine HSt.out.mono ?_
          rintro e w4 ⟨rfl, hP4⟩
          have HWh := hide (hP4.whole (by omega))
          have hG4 := hP4.kept.2
          clear hP4
          go_wp2_with fail
          refine HWh.out.mono ?_
          rintro e w5 ⟨rfl, hP5⟩
          have HP5 := hide hP5
          clear hP5
          go_wp2_with fail
          go_roundw
          case rel => exact ⟨t + 1, by omega, by go_num, HP5.out⟩
          case measure => simp [intOf]; omega
        · have HAs := hide (HP.out.asked (by omega))
          have hnt : n = t := by omega
          subst hnt
          go_wp2_with fail
          refine HAs.out.mono ?_
          rintro e w4 ⟨rfl, L9, hs9⟩
          have HF : Hid (Below w.heap.size w w4) := HBw0.out.trans (hs9.below HBw0.out.size (fun k hk => by rw [HLo.out k (by omega)]; simp [someP]))
          clear hs9
          go_wp2_with fail
          go_ret
          exact ⟨rfl, HF.out⟩
end Go.Proofs.YtojpjaifhjigfaaGreatDoor

/- conduitlaw.Sent. -/
namespace Go.Proofs.YtojpjaifhjigfaaGreatDoor
open Go.RowKit Go.Maps
attribute [local go_sem] run_store_float

set_option maxRecDepth 100000 in
set_option maxHeartbeats 4000000 in
theorem sent_any (A : Nat → Addr) (c d : Cfg) (m m' : Option Nat) (la la' : Option Addr) (lk lk' : Nat) (ts ts' : List (List UInt8 × Int)) (sa : Option Addr) (sk : Nat) (os : List Opn) (w : World) (hS : Sents.Holds w 260 gl 11 A) (hok : TenOk ts) (hT : TenAt w la ts) (hok' : TenOk ts') (hT' : TenAt w la' ts')
    (hO : OpsAt w sa os) (hOk : ∀ o ∈ os, o.Ok) (hn : os.length ≤ 400000) :
    Calls Tryz.prog 5 #[c.val m, .slice la ts.length lk, d.val m', .slice la' ts'.length lk', .slice sa os.length sk] w fun e w' => e = .returned (.bool true) ∧ Below w.heap.size w w' := by
  have HUp : Hid (∀ ma mb W, MapAt W ma (DT ts) → MapAt W mb (DT ts') → Below w.heap.size w W → Calls Tryz.prog 20 #[.agg #[.int .i64 c.d, .map ma, .int .i64 c.q, .int .i64 c.at', .int .i64 c.ba, .int .i64 c.ca, .int .i64 c.ti, .int .i64 c.wi, .int .i64 c.le, .float .f64 c.th, .int .i64 c.op, .int .i64 d.d, .map mb, .int .i64 d.q, .int .i64 d.at', .int .i64 d.ba, .int .i64 d.ca, .int .i64 d.ti, .int .i64 d.wi, .int .i64 d.le, .float .f64 d.th, .int .i64 d.op], .slice sa os.length sk, .int .i64 7] W fun e w' => e = .returned (.int .i64 (-1)) ∧ Below W.heap.size W w') := fun ma mb W h1 h2 h3 =>
    upTo_any A c d ma mb (DT ts) (DT ts') sa sk os W (hS.below h3) h1 h2 (hO.below h3) hOk hn
  have HT := hide hT
  have HT' := hide hT'
  have Hok := hide hok
  have Hok' := hide hok'
  generalize hN : os.length = n at *
  clear hS hT hT' hO hOk hok hok' hN
  go_enter Tryz.func5, Tryz.ntmps5
  go_wp2_with fail
  generalize hV : World.alloc (World.alloc w _) _ = V
  have hKc : Blk V w.heap.size (c.cells m) 25 := by rw [← hV]; exact (Blk.new w _ _).alloc _
  have hKd : Blk V (w.heap.size + 1) (d.cells m') 25 := by rw [← hV]; exact Blk.made (by simp) _ _
  have hBV : Below w.heap.size w V := by rw [← hV]; exact ((Below.refl _ _).alloc (Nat.le_refl _) _).alloc (by simp) _
  have hzV : w.heap.size + 1 < V.heap.size := hKd.lt
  have hzV0 : w.heap.size < V.heap.size := by omega
  have HCf : Hid (∀ W, Below V.heap.size V W → W.cell? ⟨w.heap.size, 0, none⟩ = some (.int .i64 c.d) ∧ W.cell? ⟨w.heap.size, 1, none⟩ = some (.map m) ∧ W.cell? ⟨w.heap.size, 2, none⟩ = some (.int .i64 c.q) ∧ W.cell? ⟨w.heap.size, 3, none⟩ = some (.int .i64 c.at') ∧ W.cell? ⟨w.heap.size, 4, none⟩ = some (.int .i64 c.ba) ∧ W.cell? ⟨w.heap.size, 5, none⟩ = some (.int .i64 c.ca) ∧ W.cell? ⟨w.heap.size, 6, none⟩ = some (.int .i64 c.ti) ∧ W.cell? ⟨w.heap.size, 7, none⟩ = some (.int .i64 c.wi) ∧ W.cell? ⟨w.heap.size, 8, none⟩ = some (.int .i64 c.le) ∧ W.cell? ⟨w.heap.size, 9, none⟩ = some (.float .f64 c.th) ∧ W.cell? ⟨w.heap.size, 10, none⟩ = some (.int .i64 c.op) ∧ W.cell? ⟨(w.heap.size + 1), 0, none⟩ = some (.int .i64 d.d) ∧ W.cell? ⟨(w.heap.size + 1), 1, none⟩ = some (.map m') ∧ W.cell? ⟨(w.heap.size + 1), 2, none⟩ = some (.int .i64 d.q) ∧ W.cell? ⟨(w.heap.size + 1), 3, none⟩ = some (.int .i64 d.at') ∧ W.cell? ⟨(w.heap.size + 1), 4, none⟩ = some (.int .i64 d.ba) ∧ W.cell? ⟨(w.heap.size + 1), 5, none⟩ = some (.int .i64 d.ca) ∧ W.cell? ⟨(w.heap.size + 1), 6, none⟩ = some (.int .i64 d.ti) ∧ W.cell? ⟨(w.heap.size + 1), 7, none⟩ = some (.int .i64 d.wi) ∧ W.cell? ⟨(w.heap.size + 1), 8, none⟩ = some (.int .i64 d.le) ∧ W.cell? ⟨(w.heap.size + 1), 9, none⟩ = some (.float .f64 d.th) ∧ W.cell? ⟨(w.heap.size + 1), 10, none⟩ = some (.int .i64 d.op)) := fun W hb => by
    have k1 := hKc.below hb (by omega)
    have k2 := hKd.below hb (by omega)
    exact ⟨k1.cell 0, k1.cell 1, k1.cell 2, k1.cell 3, k1.cell 4, k1.cell 5, k1.cell 6, k1.cell 7, k1.cell 8, k1.cell 9, k1.cell 10, k2.cell 0, k2.cell 1, k2.cell 2, k2.cell 3, k2.cell 4, k2.cell 5, k2.cell 6, k2.cell 7, k2.cell 8, k2.cell 9, k2.cell 10⟩
  have HTc : Hid (∀ W, Below V.heap.size V W → TenAt W la ts ∧ TenAt W la' ts' ∧ Below w.heap.size w W) := fun W hb => by
    have h1 : Below w.heap.size w W := hBV.trans (hb.mono (by omega))
    exact ⟨tenAt_below HT.out h1, tenAt_below HT'.out h1, h1⟩
  clear hV hKc hKd hBV
  go_upto_region 1 with fail
  go_region_held3 (fun w' => w'.cell? ⟨w.heap.size, 0, none⟩ = some (.int .i64 c.d) ∧ w'.cell? ⟨w.heap.size, 1, none⟩ = some (.map m) ∧ w'.cell? ⟨w.heap.size, 2, none⟩ = some (.int .i64 c.q) ∧ w'.cell? ⟨w.heap.size, 3, none⟩ = some (.int .i64 c.at') ∧ w'.cell? ⟨w.heap.size, 4, none⟩ = some (.int .i64 c.ba) ∧ w'.cell? ⟨w.heap.size, 5, none⟩ = some (.int .i64 c.ca) ∧ w'.cell? ⟨w.heap.size, 6, none⟩ = some (.int .i64 c.ti) ∧ w'.cell? ⟨w.heap.size, 7, none⟩ = some (.int .i64 c.wi) ∧ w'.cell? ⟨w.heap.size, 8, none⟩ = some (.int .i64 c.le) ∧ w'.cell? ⟨w.heap.size, 9, none⟩ = some (.float .f64 c.th) ∧ w'.cell? ⟨w.heap.size, 10, none⟩ = some (.int .i64 c.op) ∧ w'.cell? ⟨(w.heap.size + 1), 0, none⟩ = some (.int .i64 d.d) ∧ w'.cell? ⟨(w.heap.size + 1), 1, none⟩ = some (.map m') ∧ w'.cell? ⟨(w.heap.size + 1), 2, none⟩ = some (.int .i64 d.q) ∧ w'.cell? ⟨(w.heap.size + 1), 3, none⟩ = some (.int .i64 d.at') ∧ w'.cell? ⟨(w.heap.size + 1), 4, none⟩ = some (.int .i64 d.ba) ∧ w'.cell? ⟨(w.heap.size + 1), 5, none⟩ = some (.int .i64 d.ca) ∧ w'.cell? ⟨(w.heap.size + 1), 6, none⟩ = some (.int .i64 d.ti) ∧ w'.cell? ⟨(w.heap.size + 1), 7, none⟩ = some (.int .i64 d.wi) ∧ w'.cell? ⟨(w.heap.size + 1), 8, none⟩ = some (.int .i64 d.le) ∧ w'.cell? ⟨(w.heap.size + 1), 9, none⟩ = some (.float .f64 d.th) ∧ w'.cell? ⟨(w.heap.size + 1), 10, none⟩ = some (.int .i64 d.op)) (exact HCf.out _ (by first | exact (Below.refl _ V).drew | exact HBe.out | exact HBa.out | exact HBb.out))
    (first
      | (go_at_call 15; have hq := HBa.out; clear hq; refine (config_any d m' la' lk' ts' _ Hok'.out (HTc.out _ HBa.out).2.1).mono ?_; rintro e wb ⟨mb, rfl, hMb, hmb, hbb⟩; have hBb : Below V.heap.size V wb := HBa.out.trans (hbb.mono HBa.out.size); have HBb := hide hBb; have HMb := hide hMb; have Hbb := hide hbb; clear hBb hMb hmb hbb)
      | (go_at_call 15; refine (config_any c m la lk ts _ Hok.out (HTc.out _ (Below.refl _ V).drew).1).mono ?_; rintro e wa ⟨ma, rfl, hMa, hma, hba⟩; have hBa : Below V.heap.size V wa := (Below.refl _ V).drew.trans hba; have HBa := hide hBa; have HMa := hide hMa; clear hBa hMa hma hba)
      | (go_at_call 20; refine (HUp.out ma mb _ (HMa.out.below Hbb.out (Nat.le_refl _)) HMb.out (HTc.out _ HBb.out).2.2).mono ?_; rintro e we ⟨rfl, hbe⟩; have hBe : Below V.heap.size V we := HBb.out.trans (hbe.mono HBb.out.size); have HBe := hide hBe; clear hBe hbe))
  all_goals
    go_wp2_with fail
    go_ret
    exact ⟨rfl, (HTc.out _ HBe.out).2.2⟩
end Go.Proofs.YtojpjaifhjigfaaGreatDoor

/- What every proof over this seat takes of the rows: the listed error variables, and a world that meets them. -/
namespace Go.Proofs.YtojpjaifhjigfaaGreatDoor
open Go.ChangeShapes Go.WideShapes Go.ChangeAt Go.WideMaps Go.WideElems Go.RowKit

theorem own : ownKnob Tryz.prog.godebug = none := by kernel_rfl
theorem cells142 : Tryz.prog.cellsOf 274 = 1 := by kernel_rfl
theorem cells9 : Tryz.prog.cellsOf 9 = 1 := by kernel_rfl
theorem star : "*" ++ "errors.errorString" = "*errors.errorString" := by decide
theorem row121 (u : TypeId) (h : Tryz.prog.typeName? 3 u = some "*errors.errorString") : u = 260 :=
  typeName_ptr_named (nm := "errors.errorString") (by rw [star]; kernel_rfl) (by kernel_rfl) (by decide) u (by rw [star]; exact h)

/-- The listed variables, as the condition has them. -/
abbrev laidAll : List (String × DataW Unit) := Rows.opensRow.laid

theorem listed : Sents.Listed Tryz.prog 71 "*errors.errorString" gl laidAll :=
  ⟨⟨_, rfl⟩, by kernel_rfl, by kernel_rfl, ⟨_, rfl⟩, by kernel_rfl, by kernel_rfl, ⟨_, rfl⟩, by kernel_rfl, by kernel_rfl, ⟨_, rfl⟩, by kernel_rfl, by kernel_rfl, ⟨_, rfl⟩, by kernel_rfl, by kernel_rfl, ⟨_, rfl⟩, by kernel_rfl, by kernel_rfl,
   ⟨_, rfl⟩, by kernel_rfl, by kernel_rfl, ⟨_, rfl⟩, by kernel_rfl, by kernel_rfl, ⟨_, rfl⟩, by kernel_rfl, by kernel_rfl, ⟨_, rfl⟩, by kernel_rfl, by kernel_rfl, ⟨_, rfl⟩, by kernel_rfl, by kernel_rfl, trivial⟩

theorem sents_of {W : World} (h : laidMetH Tryz.prog laidAll W) : ∃ A : Nat → Addr, Sents.Holds W 260 gl 11 A := by
  rw [MakeChecks.laidMetH_plain _ _ _ (by kernel_rfl)] at h
  exact Sents.of_laid Tryz.underlying71 row121 Tryz.underlying260 Tryz.underlying274 rfl rfl Tryz.underlying9 cells142 cells9 listed h

/-- The door's own heap meets the condition. -/
theorem door_met (os : Os) (args : Array Value) : laidMetH Tryz.prog laidAll ((World.doorLaid Tryz.prog 400 os).forCall (fun _ _ => 0) ⟨#[], args, []⟩).memory :=
  laidMetH_of_parts3 (fuel := 8) (laidMet_of_run' 8 (by kernel_rfl) (by kernel_rfl)) (by kernel_rfl) (by kernel_rfl)

end Go.Proofs.YtojpjaifhjigfaaGreatDoor
