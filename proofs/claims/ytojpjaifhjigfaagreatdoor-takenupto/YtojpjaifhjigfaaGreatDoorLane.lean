/- The keys of the map of queues: a destination and a tenant. -/
import Derived.Test.YtojpjaifhjigfaaGreatDoorModel
import Derived.DeepKeys4
import Derived.MapViews
namespace Go.Proofs.YtojpjaifhjigfaaGreatDoor
open Go.RowKit Go.Maps

/-- A struct of a number and a text as a key, of whatever program. -/
structure PairKey (P : Program) (k : TypeId) (f1 f2 : Field) : Prop where
  hu : P.underlying k = some (.struct #[f1, f2])
  hk : P.keyType k = true
  hc : P.cellsOf k = 2
  o1 : f1.offset = 0
  o2 : f2.offset = 1
  n1 : (f1.name != "_") = true
  n2 : (f2.name != "_") = true
  u1 : P.underlying f1.type = some (.int .i64)
  u2 : P.underlying f2.type = some .string
  c1 : P.cellsOf f1.type = 1
  c2 : P.cellsOf f2.type = 1
  sz : 0 < P.types.size

theorem PairKey.made {P : Program} {k : TypeId} {f1 f2 : Field} (h : PairKey P k f1 f2) (d : Int) (t : List UInt8) (hd : (Lit.int .i64 d).wf = true) (ht : t.length ≤ maxLen) : keyOf P k (laneVal d t) = some (laneKey d t) := by
  have hs : (ByteArray.mk t.toArray).size ≤ maxLen := by simpa [ByteArray.size] using ht
  obtain ⟨n, hn⟩ : ∃ n, P.types.size = n + 1 := ⟨P.types.size - 1, by have := h.sz; omega⟩
  have h1 : P.keyLits (n + 1) f1.type [.int .i64 d] = some [.int .i64 d] := by simp [Program.keyLits, h.u1, hd]
  have h2 : P.keyLits (n + 1) f2.type [.string ⟨t.toArray⟩] = some [.string t] := by simp [Program.keyLits, h.u2, hs]
  have h3 : P.keyLits (n + 1 + 1) k [.int .i64 d, .string ⟨t.toArray⟩] = some [.int .i64 d, .string t] := by
    unfold Program.keyLits
    simp only [h.hu]
    simp [h.hc, h.n1, h.n2, h.o1, h.o2, h.c1, h.c2, h1, h2]
  unfold keyOf
  simp only [h.hu, h.hk, hn, laneVal, laneKey, encStr]
  simp [Value.formed, h.hu, h.hc, Value.cells, h3]

theorem PairKey.inv {P : Program} {k : TypeId} {f1 f2 : Field} (h : PairKey P k f1 f2) {v : Value} {kl : Lit} (hv : keyOf P k v = some kl) : ∃ d t, v = laneVal d t ∧ kl = laneKey d t ∧ (Lit.int .i64 d).wf = true ∧ t.length ≤ maxLen := by
  unfold keyOf at hv
  simp only [h.hu] at hv
  split at hv
  · rename_i hf
    simp only [Bool.and_eq_true] at hf
    obtain ⟨l, hl, rfl⟩ := Option.map_eq_some_iff.1 hv
    cases v with
    | agg cs =>
      have hc : cs.size = 2 := by simpa [Value.formed, h.hu, h.hc] using hf.2
      obtain ⟨a, b, rfl⟩ : ∃ a b, cs = #[a, b] := by
        match cs, hc with
        | ⟨[a, b]⟩, _ => exact ⟨a, b, rfl⟩
      have hl2 : P.keyLits (P.types.size + 1) k [a, b] = some l := hl
      obtain ⟨n, hn⟩ : ∃ n, P.types.size = n + 1 := ⟨P.types.size - 1, by have := h.sz; omega⟩
      rw [hn] at hl2
      unfold Program.keyLits at hl2
      simp only [h.hu] at hl2
      split at hl2
      · cases h1 : P.keyLits (n + 1) f1.type [a] with
        | none => simp [h.o1, h.o2, h.c1, h.c2, h1] at hl2
        | some x1 =>
        cases h2 : P.keyLits (n + 1) f2.type [b] with
        | none => simp [h.o1, h.o2, h.c1, h.c2, h1, h2] at hl2
        | some x2 =>
        simp [h.o1, h.o2, h.c1, h.c2, h1, h2] at hl2
        subst hl2
        obtain ⟨d, hd, rfl, hdw⟩ : ∃ d, [a] = [Value.int .i64 d] ∧ x1 = [Lit.int .i64 d] ∧ (Lit.int .i64 d).wf = true := by
          obtain ⟨d, e1, e2⟩ := keyLits_int' h.u1 h1
          refine ⟨d, e1, e2, ?_⟩
          rw [e1] at h1
          simp [Program.keyLits, h.u1] at h1
          exact h1.1
        obtain ⟨t, ht, rfl, htw⟩ : ∃ t, [b] = [Value.string t] ∧ x2 = [Lit.string t.data.toList] ∧ t.size ≤ maxLen := by
          obtain ⟨t, e1, e2⟩ := keyLits_string' h.u2 h2
          refine ⟨t, e1, e2, ?_⟩
          rw [e1] at h2
          simp [Program.keyLits, h.u2] at h2
          exact h2.1
        obtain rfl : a = _ := by simpa using hd
        obtain rfl : b = _ := by simpa using ht
        exact ⟨d, t.data.toList, by simp [laneVal, encStr], by simp [laneKey], hdw, by rw [Array.length_toList]; exact htw⟩
      · cases hl2
    | _ => simp [Value.formed, h.hu] at hf
  · cases hv

theorem klaw2 {P : Program} {k : TypeId} (hl : laidOutB P = true) (hrow : k < P.types.size) (hk : P.keyTypeAt 2 k = true) (hw : (match P.underlying k with | some (.array _ _) | some (.struct _) => true | _ => false) = true) : WideMaps.KeyLaw P k := deep_law_laid hl (m := 2) (by omega) hrow hk hw
set_option maxRecDepth 100000 in
theorem pk : ∃ f1 f2, PairKey Tryz.prog 202 f1 f2 :=
  ⟨_, _, { hu := Tryz.underlying202, hk := (by kernel_rfl), hc := (by kernel_rfl), o1 := rfl, o2 := rfl, n1 := (by decide), n2 := (by decide), u1 := Tryz.underlying3, u2 := Tryz.underlying9, c1 := (by kernel_rfl), c2 := (by kernel_rfl), sz := of_decide_eq_true (by kernel_rfl) }⟩
theorem laidOut : laidOutB Tryz.prog = true := by kernel_rfl
theorem rowLane : (202 : TypeId) < Tryz.prog.types.size := of_decide_eq_true (by kernel_rfl)
theorem wideLane : (match Tryz.prog.underlying 202 with | some (.array _ _) | some (.struct _) => true | _ => false) = true := by rw [Tryz.underlying202]
theorem keyAtLane : Tryz.prog.keyTypeAt 2 202 = true := by kernel_rfl
theorem klawLane : WideMaps.KeyLaw Tryz.prog 202 := klaw2 laidOut rowLane keyAtLane wideLane
theorem lawLane : Keyed Tryz.prog 202 := Keyed.of_law klawLane
theorem keyOf_lane {d : Int} {t : List UInt8} (h : LaneOk d t) : keyOf Tryz.prog 202 (laneVal d t) = some (laneKey d t) := by
  obtain ⟨f1, f2, hp⟩ := pk
  exact hp.made d t h.1 h.2
theorem lane_inv {v : Value} {kl : Lit} (h : keyOf Tryz.prog 202 v = some kl) : ∃ d t, v = laneVal d t ∧ kl = laneKey d t ∧ LaneOk d t := by
  obtain ⟨f1, f2, hp⟩ := pk
  exact hp.inv h
theorem laneKey_inj {d d' : Int} {t t' : List UInt8} (h : LaneOk d t) (h' : LaneOk d' t') (e : laneKey d t = laneKey d' t') : d = d' ∧ t = t' := by
  have h1 := keyOf_lane h
  have h2 := keyOf_lane h'
  rw [← e] at h2
  have := klawLane.inj h1 h2
  simpa [laneVal, encStr] using this
theorem laneKey_ne {d d' : Int} {t t' : List UInt8} (h : LaneOk d t) (h' : LaneOk d' t') (hne : ¬ (d = d' ∧ t = t')) : laneKey d t ≠ laneKey d' t' := fun e => hne (laneKey_inj h h' e)
end Go.Proofs.YtojpjaifhjigfaaGreatDoor
