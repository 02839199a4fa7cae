/- Steps of the proof (several texts in one): Keep, ArgsInts, ArgsSteps, Reader, Reader2. -/
import Derived.Test.YtojpjaifhjigfaaGreatDoorMKept14
import Derived.ProofKit
import Derived.Deep.Slices
import Derived.OpenShut
import Derived.Test.YtojpjaifhjigfaaGreatDoorMKept10
import Derived.Laws.Strings2

/- conduitkeep: pick, raw, names, id. -/
namespace Go.Proofs.YtojpjaifhjigfaaGreatDoor
open Go.RowKit Go.Maps

/-- Which of n things a number speaks of. -/
def pickN (z : Int) (n : Nat) : Nat := (if z < 0 then (-(z + 1)).toNat else z.toNat) % n
theorem pickN_lt (z : Int) {n : Nat} (h : 0 < n) : pickN z n < n := Nat.mod_lt _ h
theorem pickK_neg {z : Int} (n : Nat) (h : z < 0) : (-(z + 1)) % (n : Int) = (pickN z n : Int) := by
  have e : -(z + 1) = ((-(z + 1)).toNat : Int) := by omega
  unfold pickN
  rw [if_pos h]
  generalize (-(z + 1)).toNat = k at *
  rw [e]
  rfl
theorem pickK_negt {z : Int} (n : Nat) (h : z < 0) : -(z + 1).tmod n = (pickN z n : Int) := by
  have e : z + 1 = -((-(z + 1)).toNat : Int) := by omega
  unfold pickN
  rw [if_pos h]
  generalize (-(z + 1)).toNat = k at *
  rw [e, Int.neg_tmod, Int.neg_neg]
  rfl
theorem pickK_pos {z : Int} (n : Nat) (h : 0 ≤ z) : z % n = (pickN z n : Int) := by
  unfold pickN
  rw [if_neg (by omega)]
  obtain ⟨k, rfl⟩ := Int.eq_ofNat_of_zero_le h
  simp

set_option maxHeartbeats 1000000 in
theorem kpick_any (z : Int) (n : Nat) (w : World) (h0 : -9223372036854775808 ≤ z) (h1 : z ≤ 9223372036854775807) (hn : 0 < n) : Calls Tryz.prog 28 #[.int .i64 z, .int .i64 n] w fun e w' => e = .returned (.int .i64 (pickN z n)) ∧ w' = w := by
  have hn0 : ¬ ((n : Int) = 0) := by omega
  by_cases hz : z < 0
  · go_enter Tryz.func28, Tryz.ntmps28
    go_wp2
    go_ret
    first
      | exact ⟨ret_int (pickK_neg n hz), rfl⟩
      | exact ⟨ret_int (pickK_negt n hz), rfl⟩
  · go_enter Tryz.func28, Tryz.ntmps28
    go_wp2
    go_ret
    exact ⟨ret_int (pickK_pos n (by omega)), rfl⟩

/-- Numbers that came in. -/
def IntsAt (w : World) (a : Option Addr) (zs : List Int) : Prop := zs = [] ∨ ∃ b off, a = some ⟨b, off, none⟩ ∧ b < w.heap.size ∧ ∀ (k : Nat) (z : Int), zs[k]? = some z → w.cell? ⟨b, off + k, none⟩ = some (.int .i64 z)
theorem IntsAt.below {w w' : World} {a : Option Addr} {zs : List Int} (h : IntsAt w a zs) (hb : Below w.heap.size w w') : IntsAt w' a zs := by
  rcases h with h | ⟨b, off, e, h1, h2⟩
  · exact Or.inl h
  · exact Or.inr ⟨b, off, e, Nat.lt_of_lt_of_le h1 hb.size, fun k z hz => (hb.cell (p := ⟨b, off + k, none⟩) h1).trans (h2 k z hz)⟩
def InR (z : Int) : Prop := -9223372036854775808 ≤ z ∧ z ≤ 9223372036854775807
theorem rawN_in {zs : List Int} (h : ∀ z ∈ zs, InR z) (i : Nat) : InR (zs.getD i 0) := by
  rw [List.getD_eq_getElem?_getD]
  cases e : zs[i]? with
  | none => exact ⟨by simp, by simp⟩
  | some z => exact h z (List.mem_of_getElem? e)

set_option maxHeartbeats 1000000 in
theorem kraw_any (a : Option Addr) (cap : Nat) (zs : List Int) (i : Nat) (w : World) (h : IntsAt w a zs) : Calls Tryz.prog 29 #[.slice a zs.length cap, .int .i64 i] w fun e w' => e = .returned (.int .i64 (zs.getD i 0)) ∧ w' = w := by
  by_cases hi : i < zs.length
  · obtain ⟨z, hz⟩ : ∃ z, zs[i]? = some z := ⟨_, List.getElem?_eq_getElem hi⟩
    have e : zs.getD i 0 = z := by rw [List.getD_eq_getElem?_getD, hz]; rfl
    rcases h with h | ⟨b, off, rfl, _, h2⟩
    · rw [h] at hi; cases hi
    have c := h2 i z hz
    have hiI : (i : Int) < (zs.length : Int) := by omega
    rw [e]
    generalize zs.length = n at *
    clear h2 e hz
    go_enter Tryz.func29, Tryz.ntmps29
    go_wp2
    go_ret
    exact ⟨rfl, rfl⟩
  · have e : zs.getD i 0 = 0 := by rw [List.getD_eq_getElem?_getD, List.getElem?_eq_none (by omega)]; rfl
    have hiI : ¬ ((i : Int) < (zs.length : Int)) := by omega
    rw [e]
    generalize zs.length = n at *
    clear h e
    go_enter Tryz.func29, Tryz.ntmps29
    go_wp2
    go_ret
    exact ⟨rfl, rfl⟩

/-- The four tenants' names. -/
def kn : List (List UInt8) := [[97], [98], [99], [100]]
set_option maxHeartbeats 1000000 in
theorem knames_any (w : World) : Calls Tryz.prog 38 #[] w fun e w' => e = .returned (.slice (some ⟨w.heap.size, 0, none⟩) 4 4) ∧ w' = w.alloc (.cells #[encStr [97], encStr [98], encStr [99], encStr [100]] 9) := by
  go_enter Tryz.func38, Tryz.ntmps38
  go_wp2
  go_ret
  exact ⟨rfl, rfl⟩

/-- The ids that are made up. -/
def kid (n : Nat) : List UInt8 := [105, UInt8.ofNat (65 + n / 26 % 26), UInt8.ofNat (65 + n % 26)]
theorem u8_inj {a b : Nat} (ha : a < 256) (hb : b < 256) (h : UInt8.ofNat a = UInt8.ofNat b) : a = b := by
  have := congrArg UInt8.toNat h
  simpa [UInt8.toNat_ofNat, Nat.mod_eq_of_lt ha, Nat.mod_eq_of_lt hb] using this
theorem kid_inj {n m : Nat} (hn : n < 676) (hm : m < 676) (h : kid n = kid m) : n = m := by
  simp only [kid, List.cons.injEq, and_true, true_and] at h
  have h1 := u8_inj (by omega) (by omega) h.1
  have h2 := u8_inj (by omega) (by omega) h.2
  omega

theorem two_row (w : World) (x y : Value) : (w.alloc (.cells #[x, y] 5)).ownsRow 0 5 1 (.slice (some ⟨w.heap.size, 0, none⟩) 2 2) 2 [x, y] :=
  ⟨rfl, Or.inr ⟨_, _, _, rfl, Nat.zero_le _, obj_new rfl _, Nat.le_refl _, by unfold maxLen; omega, rfl, rfl⟩⟩
theorem convert_two (w : World) (x y : UInt8) : (convert 156 9 (.slice (some ⟨w.heap.size, 0, none⟩) 2 2)).run Tryz.prog (w.alloc (.cells #[.int .u8 x.toNat, .int .u8 y.toNat] 5)) = .ok (encStr [x, y]) (w.alloc (.cells #[.int .u8 x.toNat, .int .u8 y.toNat] 5)) := by
  refine run_convert_bytes_back _ 156 9 5 ⟨w.heap.size, 0, none⟩ 2 [x, y] Tryz.underlying156 Tryz.underlying5 Tryz.underlying9 (fun j hj => ?_)
  exact (two_row w _ _).cells (by simp [Value.ownBlock]) j _ (by match j, hj with | 0, _ => rfl | 1, _ => rfl)
set_option maxRecDepth 100000 in
set_option maxHeartbeats 1000000 in
theorem kid_any (n : Nat) (w : World) (h : n < 1000) : Calls Tryz.prog 37 #[.int .i64 n] w fun e w' => e = .returned (encStr (kid n)) ∧ Below w.heap.size w w' := by
  have e1 : (65 + (n : Int) / 26 % 26) = ((UInt8.ofNat (65 + n / 26 % 26)).toNat : Int) := by
    rw [UInt8.toNat_ofNat']
    omega
  have e2 : (65 + (n : Int) % 26) = ((UInt8.ofNat (65 + n % 26)).toNat : Int) := by
    rw [UInt8.toNat_ofNat']
    omega
  have hcv : (convert 156 9 (.slice (some ⟨w.heap.size, 0, none⟩) 2 2)).run Tryz.prog (w.alloc (.cells #[.int .u8 (65 + (n : Int) / 26 % 26), .int .u8 (65 + (n : Int) % 26)] 5)) = .ok (encStr [UInt8.ofNat (65 + n / 26 % 26), UInt8.ofNat (65 + n % 26)]) (w.alloc (.cells #[.int .u8 (65 + (n : Int) / 26 % 26), .int .u8 (65 + (n : Int) % 26)] 5)) := by
    have := convert_two w (UInt8.ofNat (65 + n / 26 % 26)) (UInt8.ofNat (65 + n % 26))
    rw [← e1, ← e2] at this
    exact this
  clear e1 e2
  unfold kid
  generalize UInt8.ofNat (65 + n / 26 % 26) = x at *
  generalize UInt8.ofNat (65 + n % 26) = y at *
  go_enter Tryz.func37, Tryz.ntmps37
  go_wp2_with fail
  go_ret
  refine ⟨?_, (Below.refl _ _).alloc (Nat.le_refl _) _⟩
  have e : (ByteArray.mk #[105]) ++ (ByteArray.mk #[x, y]) = ByteArray.mk #[105, x, y] := by
    apply ByteArray.ext
    rw [ByteArray.data_append]
    simp
  show Ending.returned (Value.string (ByteArray.mk #[105] ++ ByteArray.mk #[x, y])) = _
  rw [e]
end Go.Proofs.YtojpjaifhjigfaaGreatDoor

/- A list of numbers that comes in as an argument. -/
namespace Go.Proofs.YtojpjaifhjigfaaGreatDoor
open Go.ChangeShapes Go.WideShapes Go.ChangeAt Go.WideMaps Go.WideElems Go.RowKit
set_option maxRecDepth 100000

theorem intCells : Tryz.prog.cellsOf 3 = 1 := by kernel_rfl
theorem wfI {n : Int} (h : (Lit.int .i64 n).wf = true) : -9223372036854775808 ≤ n ∧ n ≤ 9223372036854775807 := by
  simpa [Lit.wf, IntKind.min, IntKind.max, IntKind.signed, IntKind.bits] using h
theorem exists_list {α : Type} {n : Nat} {Q : Nat → α → Prop} (h : ∀ i, i < n → ∃ x, Q i x) : ∃ l : List α, l.length = n ∧ ∀ i (hi : i < l.length), Q i (l[i]'hi) := by
  induction n with
  | zero => exact ⟨[], rfl, fun i hi => absurd hi (Nat.not_lt_zero _)⟩
  | succ n ih =>
    obtain ⟨l, hl, hq⟩ := ih (fun i hi => h i (by omega))
    obtain ⟨x, hx⟩ := h n (by omega)
    refine ⟨l ++ [x], by simp [hl], fun i hi => ?_⟩
    by_cases hin : i < l.length
    · rw [List.getElem_append_left hin]; exact hq i hin
    · have e : i = l.length := by simp at hi; omega
      subst e
      rw [List.getElem_append_right (Nat.le_refl _)]
      simpa [hl] using hx

theorem ints_of {H : Type} {enc : TypeId × Value → H} {W : World} {a : Option Addr} {len cap : Nat} {d : DataW H} {p : List MemPlace} (h : DataW.Trod enc Tryz.prog W 0 (fun _ => true) true 51 (.slice a len cap) d p) :
    ∃ zs : List Int, zs.length = len ∧ IntsAt W a zs ∧ ∀ z ∈ zs, InR z := by
  obtain ⟨fuel, hf⟩ := h
  rcases Go.Deep.open_slice Tryz.underlying51 hf with ⟨h1, _⟩ | ⟨a', len', cap', m, n, D, Pl, h1, _, hl, hm, hmm, hx, hel⟩
  · simp only [Value.cells, List.cons.injEq, Value.slice.injEq, and_true] at h1
    obtain ⟨_, rfl, _⟩ := h1
    exact ⟨[], rfl, Or.inl rfl, fun x hx => (by cases hx)⟩
  · simp only [Value.cells, List.cons.injEq, Value.slice.injEq, and_true] at h1
    obtain ⟨rfl, rfl, rfl⟩ := h1
    have hmc : m = cap := by simpa using hmm
    subst hmc
    have hcell : ∀ i, i < len → ∃ z : Int, InR z ∧ W.cell? (a'.add i) = some (.int .i64 z) := fun i hi => by
      obtain ⟨cs', hc, ht⟩ := hel i (by omega)
      rw [intCells] at hc
      obtain ⟨z, e, _, q⟩ := DataW.trod_int Tryz.underlying3 ht
      subst e
      obtain ⟨_, _, hcc⟩ := World.cells?_some hc
      have := hcc 0 (by omega)
      refine ⟨z, wfI q, ?_⟩
      simpa [Addr.add] using this
    obtain ⟨zs, hlen, hts⟩ := exists_list (n := len) (Q := fun i (z : Int) => InR z ∧ W.cell? (a'.add i) = some (.int .i64 z)) hcell
    refine ⟨zs, hlen, ?_, ?_⟩
    · by_cases h0 : len = 0
      · exact Or.inl (List.eq_nil_of_length_eq_zero (by omega))
      · obtain ⟨b, off, sp⟩ := a'
        have hc0 := (hts 0 (by omega)).2
        have hsp : sp = none := by
          have h1 := hc0
          cases sp with
          | none => rfl
          | some x =>
            unfold World.cell? at h1
            simp only [Addr.add] at h1
            split at h1
            · split at h1
              · cases h1
              · rename_i hs
                simp at hs
            · cases h1
        subst hsp
        refine Or.inr ⟨b, off, rfl, ?_, fun k z hz => ?_⟩
        · have := World.block_lt_of_cell? W _ hc0
          rw [Addr.add_mid] at this
          exact this
        · have hk : k < zs.length := (List.getElem?_eq_some_iff.1 hz).1
          have e : zs[k] = z := (List.getElem?_eq_some_iff.1 hz).2
          have := (hts k hk).2
          rw [e, Addr.add_mid] at this
          exact this
    · intro x hx'
      obtain ⟨i, hi, rfl⟩ := List.mem_iff_getElem.1 hx'
      exact (hts i hi).1
end Go.Proofs.YtojpjaifhjigfaaGreatDoor

/- A list of steps that comes in as an argument. -/
namespace Go.Proofs.YtojpjaifhjigfaaGreatDoor
open Go.ChangeShapes Go.WideShapes Go.ChangeAt Go.WideMaps Go.WideElems Go.RowKit
set_option maxRecDepth 100000

/-- A step of a script. -/
structure St where
  k : Int
  d : Int
  t : Int
  n : Int
  good : Bool
def St.cells (s : St) : List Value := [.int .i64 s.k, .int .i64 s.d, .int .i64 s.t, .int .i64 s.n, .bool s.good]
structure St.Ok (s : St) : Prop where
  k : InR s.k
  d : InR s.d
  t : InR s.t
  n : InR s.n
def StepsAt (w : World) (a : Option Addr) (ss : List St) : Prop := ss = [] ∨ ∃ b off, a = some ⟨b, off, none⟩ ∧ b < w.heap.size ∧ ∀ (i : Nat) (s : St), ss[i]? = some s → ∀ (j : Nat) (v : Value), s.cells[j]? = some v → w.cell? ⟨b, off + i * 5 + j, none⟩ = some v
theorem StepsAt.below {w w' : World} {a : Option Addr} {ss : List St} (h : StepsAt w a ss) (hb : Below w.heap.size w w') : StepsAt w' a ss := by
  rcases h with h | ⟨b, off, e, h1, h2⟩
  · exact Or.inl h
  · exact Or.inr ⟨b, off, e, Nat.lt_of_lt_of_le h1 hb.size, fun i s hs j v hv => (hb.cell (p := ⟨b, off + i * 5 + j, none⟩) h1).trans (h2 i s hs j v hv)⟩
theorem stepCells : Tryz.prog.cellsOf 124 = 5 := by kernel_rfl
theorem boolCells : Tryz.prog.cellsOf 4 = 1 := by kernel_rfl
theorem stepBytes : Tryz.prog.bytesOf 124 = 40 := by kernel_rfl
theorem trod_struct5 {H : Type} {enc : TypeId × Value → H} {P : Program} {w : World} {base : Nat} {spare : Nat → Bool} {held : Bool} {t : TypeId} {f0 f1 f2 f3 f4 : Field} {fuel : Nat} {cs : List Value} {x : DataW H × List MemPlace} (ht : P.underlying t = some (.struct #[f0, f1, f2, f3, f4])) (h : DataW.trod enc P w base spare held fuel t cs = some x) :
    ∃ y0 y1 y2 y3 y4 n, cs.length = P.cellsOf t ∧ DataW.trod enc P w base spare held n f0.type ((cs.drop f0.offset).take (P.cellsOf f0.type)) = some y0 ∧ DataW.trod enc P w base spare held n f1.type ((cs.drop f1.offset).take (P.cellsOf f1.type)) = some y1 ∧
      DataW.trod enc P w base spare held n f2.type ((cs.drop f2.offset).take (P.cellsOf f2.type)) = some y2 ∧ DataW.trod enc P w base spare held n f3.type ((cs.drop f3.offset).take (P.cellsOf f3.type)) = some y3 ∧ DataW.trod enc P w base spare held n f4.type ((cs.drop f4.offset).take (P.cellsOf f4.type)) = some y4 := by
  obtain ⟨xs, n, _, rfl, hl, hlen, hf⟩ := DataW.trod_struct ht h
  match xs, hlen with
  | [y0, y1, y2, y3, y4], _ => exact ⟨y0, y1, y2, y3, y4, n, hl, by simpa using hf 0 f0 rfl, by simpa using hf 1 f1 rfl, by simpa using hf 2 f2 rfl, by simpa using hf 3 f3 rfl, by simpa using hf 4 f4 rfl⟩

theorem steps_of {H : Type} {enc : TypeId × Value → H} {W : World} {a : Option Addr} {len cap : Nat} {d : DataW H} {p : List MemPlace} (h : DataW.Trod enc Tryz.prog W 0 (fun _ => true) true 52 (.slice a len cap) d p) :
    ∃ ss : List St, ss.length = len ∧ StepsAt W a ss ∧ (∀ s ∈ ss, s.Ok) ∧ (len = 0 ∨ ∃ elems spare, d = .slice elems spare ∧ elems.length = len) := by
  obtain ⟨fuel, hf⟩ := h
  rcases Go.Deep.open_slice Tryz.underlying52 hf with ⟨h1, _⟩ | ⟨a', len', cap', m, n, D, Pl, h1, _, hl, hm, hmm, hx, hel⟩
  · simp only [Value.cells, List.cons.injEq, Value.slice.injEq, and_true] at h1
    obtain ⟨_, rfl, _⟩ := h1
    exact ⟨[], rfl, Or.inl rfl, fun x hx => (by cases hx), Or.inl rfl⟩
  · simp only [Value.cells, List.cons.injEq, Value.slice.injEq, and_true] at h1
    obtain ⟨rfl, rfl, rfl⟩ := h1
    have hmc : m = cap := by simpa using hmm
    subst hmc
    have hcell : ∀ i, i < len → ∃ s : St, s.Ok ∧ ∀ (j : Nat) (v : Value), s.cells[j]? = some v → W.cell? ((a'.add (i * 5)).add j) = some v := fun i hi => by
      obtain ⟨cs', hc, ht⟩ := hel i (by omega)
      rw [stepCells] at hc
      obtain ⟨y0, y1, y2, y3, y4, n', hlc, t0, t1, t2, t3, t4⟩ := trod_struct5 Tryz.underlying124 ht
      rw [stepCells] at hlc
      match cs', hlc with
      | [c0, c1, c2, c3, c4], _ =>
        obtain ⟨q0, e0, _, h0⟩ := DataW.trod_int Tryz.underlying3 t0
        obtain ⟨q1, e1, _, h1⟩ := DataW.trod_int Tryz.underlying3 t1
        obtain ⟨q2, e2, _, h2⟩ := DataW.trod_int Tryz.underlying3 t2
        obtain ⟨q3, e3, _, h3⟩ := DataW.trod_int Tryz.underlying3 t3
        obtain ⟨q4, e4, _⟩ := DataW.trod_bool Tryz.underlying4 t4
        obtain ⟨_, _, hcc⟩ := World.cells?_some hc
        have e0' : c0 = .int .i64 q0 := by simpa [intCells] using e0
        have e1' : c1 = .int .i64 q1 := by simpa [intCells] using e1
        have e2' : c2 = .int .i64 q2 := by simpa [intCells] using e2
        have e3' : c3 = .int .i64 q3 := by simpa [intCells] using e3
        have e4' : c4 = .bool q4 := by simpa [boolCells] using e4
        subst e0' e1' e2' e3' e4'
        refine ⟨⟨q0, q1, q2, q3, q4⟩, ⟨wfI h0, wfI h1, wfI h2, wfI h3⟩, fun j v hv => ?_⟩
        have hj : j < 5 := by have := (List.getElem?_eq_some_iff.1 hv).1; simpa [St.cells] using this
        have k := hcc j (by omega)
        rw [k]
        rcases (by omega : j = 0 ∨ j = 1 ∨ j = 2 ∨ j = 3 ∨ j = 4) with rfl | rfl | rfl | rfl | rfl <;> (simp [St.cells] at hv ⊢; exact hv)
    obtain ⟨ss, hlen, hss⟩ := exists_list (n := len) (Q := fun i (s : St) => s.Ok ∧ ∀ (j : Nat) (v : Value), s.cells[j]? = some v → W.cell? ((a'.add (i * 5)).add j) = some v) hcell
    have hxd : d = .slice ((List.range len).map D) ((List.range (m - len)).map fun j => D (len + j)) := by simpa using congrArg Prod.fst hx
    refine ⟨ss, hlen, ?_, ?_, Or.inr ⟨_, _, hxd, by simp⟩⟩
    · by_cases h0 : len = 0
      · exact Or.inl (List.eq_nil_of_length_eq_zero (by omega))
      · obtain ⟨b, off, sp⟩ := a'
        have hc0 := (hss 0 (by omega)).2 0 _ rfl
        have hsp : sp = none := by
          have h1 := hc0
          cases sp with
          | none => rfl
          | some x =>
            unfold World.cell? at h1
            simp only [Addr.add] at h1
            split at h1
            · split at h1
              · cases h1
              · rename_i hs
                simp at hs
            · cases h1
        subst hsp
        refine Or.inr ⟨b, off, rfl, ?_, fun k s hs j v hv => ?_⟩
        · have := World.block_lt_of_cell? W _ hc0
          rw [Addr.add_mid, Addr.add_mid] at this
          exact this
        · have hk : k < ss.length := (List.getElem?_eq_some_iff.1 hs).1
          have e : ss[k] = s := (List.getElem?_eq_some_iff.1 hs).2
          have := (hss k hk).2 j v (by rw [e]; exact hv)
          rw [Addr.add_mid, Addr.add_mid] at this
          exact this
    · intro x hx'
      obtain ⟨i, hi, rfl⟩ := List.mem_iff_getElem.1 hx'
      exact (hss i hi).1
end Go.Proofs.YtojpjaifhjigfaaGreatDoor

/- The reader of a log. -/
namespace Go.Proofs.YtojpjaifhjigfaaGreatDoor
open Go.RowKit Go.Maps

/-- What is left, and whether a piece was not there whole. -/
structure Rd where
  rest : List UInt8
  short : Bool
def Rd.cells (r : Rd) : Array Value := #[encStr r.rest, .bool r.short]
def Rd.piece (r : Rd) (n : Nat) : List UInt8 × Rd := if r.rest.length < n then ([], ⟨[], true⟩) else (r.rest.take n, ⟨r.rest.drop n, r.short⟩)
def Rd.number (r : Rd) : Nat × Rd := match r.rest with | [] => (0, ⟨[], true⟩) | x :: l => (x.toNat, ⟨l, r.short⟩)
def Rd.text (r : Rd) : List UInt8 × Rd := r.number.2.piece r.number.1
def Rd.record (r : Rd) : Nat × List UInt8 × Rd := (r.number.1, (r.number.2.number.2.number.2.piece (r.number.2.number.1 * 256 + r.number.2.number.2.number.1)).1, (r.number.2.number.2.number.2.piece (r.number.2.number.1 * 256 + r.number.2.number.2.number.1)).2)
/-- Where the reader lies; all else is as it was. -/
def RdAt (w : World) (gr : Nat) (r : Rd) : Prop := Blk w gr r.cells 182
theorem Rd.number_lt (r : Rd) : r.number.1 < 256 := by
  unfold Rd.number
  split
  · simp
  · rename_i x l _
    exact x.toNat_lt

theorem grown_refl (w : World) (r : Option Nat) : w.grownBy w r := ⟨rfl, rfl, rfl, Nat.le_refl _, fun _ _ _ => rfl⟩
theorem grown_trans {w w1 w2 : World} {r : Option Nat} (h : w.grownBy w1 r) (k : w1.grownBy w2 r) : w.grownBy w2 r :=
  ⟨k.os.trans h.os, k.tape.trans h.tape, k.output.trans h.output, Nat.le_trans h.size k.size, fun i hi hn => (k.block i (Nat.lt_of_lt_of_le hi h.size) hn).trans (h.block i hi hn)⟩
theorem grown_set (w : World) (g i : Nat) (v : Value) : w.grownBy (w.setCell ⟨g, i, none⟩ v) (some g) :=
  ⟨rfl, rfl, rfl, by simp [World.setCell], fun k _ hn => Below.heap_setCell _ _ _ _ (fun e => hn (by simpa using e))⟩
theorem grown_drew (w : World) (r : Option Nat) : w.grownBy w.drew r := ⟨rfl, rfl, rfl, Nat.le_refl _, fun _ _ _ => rfl⟩

theorem enc_take (l : List UInt8) (n : Nat) : Value.string ((ByteArray.mk l.toArray).extract 0 n) = encStr (l.take n) := by
  rw [ByteArray.extract_mk]
  rfl
theorem enc_drop (l : List UInt8) (n : Nat) : Value.string ((ByteArray.mk l.toArray).extract n l.length) = encStr (l.drop n) := by
  rw [ByteArray.extract_mk, List.take_of_length_le (by simp)]

set_option maxHeartbeats 1000000 in
theorem piece_any (gr : Nat) (r : Rd) (n : Nat) (w : World) (h : RdAt w gr r) : Calls Tryz.prog 130 #[.pointer (some ⟨gr, 0, none⟩), .int .i64 n] w fun e w' => e = .returned (encStr (r.piece n).1) ∧ RdAt w' gr (r.piece n).2 ∧ w.grownBy w' (some gr) := by
  have c0 : w.cell? ⟨gr, 0, none⟩ = some (encStr r.rest) := Blk.cell h 0
  have c1 : w.cell? ⟨gr, 1, none⟩ = some (.bool r.short) := Blk.cell h 1
  have f0 : w.frozen? ⟨gr, 0, none⟩ = false := Blk.frozen h 0
  have f1 : w.frozen? ⟨gr, 1, none⟩ = false := Blk.frozen h 1
  have H := hide h
  obtain ⟨rest, short⟩ := r
  simp only at c0 c1
  clear h
  by_cases hlt : rest.length < n
  · have hltI : (rest.length : Int) < (n : Int) := by omega
    have e : Rd.piece ⟨rest, short⟩ n = ([], ⟨[], true⟩) := if_pos hlt
    rw [e]
    clear e
    go_enter Tryz.func130, Tryz.ntmps130
    go_wp2_with fail
    go_ret
    refine ⟨rfl, ?_, grown_trans (grown_set _ _ _ _) (grown_set _ _ _ _)⟩
    exact (Blk.set (Blk.set H.out 0 (encStr [])) 1 (.bool true))
  · have hltI : ¬ (rest.length : Int) < (n : Int) := by omega
    have e : Rd.piece ⟨rest, short⟩ n = (rest.take n, ⟨rest.drop n, short⟩) := if_neg hlt
    rw [e]
    clear e
    go_enter Tryz.func130, Tryz.ntmps130
    go_wp2_with fail
    go_ret
    refine ⟨?_, ?_, grown_set _ _ _ _⟩
    · show Ending.returned (Value.string _) = _
      rw [enc_take]
    · rw [enc_drop]
      exact Blk.set H.out 0 (encStr (rest.drop n))

theorem wrap64_small {n : Nat} (h : n < 1000000) : wrap64 (n : Int) = n := by
  unfold wrap64
  omega
theorem number_piece (r : Rd) : r.number = (match (r.piece 1).1 with | [] => 0 | x :: _ => x.toNat, (r.piece 1).2) := by
  obtain ⟨rest, short⟩ := r
  cases rest with
  | nil => rfl
  | cons x l =>
    unfold Rd.number Rd.piece
    simp
set_option maxHeartbeats 1000000 in
theorem number_any (gr : Nat) (r : Rd) (w : World) (h : RdAt w gr r) : Calls Tryz.prog 129 #[.pointer (some ⟨gr, 0, none⟩)] w fun e w' => e = .returned (.int .i64 r.number.1) ∧ RdAt w' gr r.number.2 ∧ w.grownBy w' (some gr) := by
  have HP := hide (piece_any gr r 1 w h)
  rw [number_piece]
  have hl : (r.piece 1).1.length ≤ 1 := by
    unfold Rd.piece
    split
    · simp
    · simp; omega
  generalize r.piece 1 = pr at *
  obtain ⟨p, r'⟩ := pr
  simp only at HP hl ⊢
  clear h
  cases p with
  | nil =>
    go_enter Tryz.func129, Tryz.ntmps129
    go_wp2_with fail
    refine HP.out.mono ?_
    rintro e w1 ⟨rfl, h1, h2⟩
    have H1 := hide h1
    have H2 := hide h2
    clear h1 h2
    go_wp2_with fail
    go_ret
    exact ⟨rfl, H1.out, H2.out⟩
  | cons x l =>
    obtain rfl : l = [] := by simpa using hl
    go_enter Tryz.func129, Tryz.ntmps129
    go_wp2_with fail
    refine HP.out.mono ?_
    rintro e w1 ⟨rfl, h1, h2⟩
    have H1 := hide h1
    have H2 := hide h2
    clear h1 h2
    go_wp2_with fail
    go_ret
    refine ⟨?_, H1.out, H2.out⟩
    show Ending.returned (Value.int IntKind.i64 (wrap64 ((x.toNat : Nat) : Int))) = _
    rw [wrap64_small (by have := x.toNat_lt; omega)]
set_option maxHeartbeats 1000000 in
theorem text_any (gr : Nat) (r : Rd) (w : World) (h : RdAt w gr r) : Calls Tryz.prog 153 #[.pointer (some ⟨gr, 0, none⟩)] w fun e w' => e = .returned (encStr r.text.1) ∧ RdAt w' gr r.text.2 ∧ w.grownBy w' (some gr) := by
  have HN := hide (number_any gr r w h)
  have HP := hide (fun w' h' => piece_any gr r.number.2 r.number.1 w' h')
  unfold Rd.text
  generalize r.number = nr at *
  obtain ⟨n, r1⟩ := nr
  simp only at HN HP ⊢
  generalize r1.piece n = pr at *
  obtain ⟨p, r2⟩ := pr
  simp only at HP ⊢
  clear h
  go_enter Tryz.func153, Tryz.ntmps153
  go_wp2_with fail
  refine HN.out.mono ?_
  rintro e w1 ⟨rfl, h1, h2⟩
  have HP1 := hide (HP.out w1 h1)
  have H2 := hide h2
  clear h1 h2
  go_wp2_with fail
  refine HP1.out.mono ?_
  rintro e w2 ⟨rfl, h3, h4⟩
  have H3 := hide h3
  have H4 := hide h4
  clear h3 h4
  go_wp2_with fail
  go_ret
  exact ⟨rfl, H3.out, grown_trans H2.out H4.out⟩
end Go.Proofs.YtojpjaifhjigfaaGreatDoor

/- The reader: a record, an event. -/
namespace Go.Proofs.YtojpjaifhjigfaaGreatDoor
open Go.RowKit Go.Maps

set_option maxHeartbeats 1000000 in
theorem rdRecord_any (gr : Nat) (r : Rd) (w : World) (h : RdAt w gr r) : Calls Tryz.prog 103 #[.pointer (some ⟨gr, 0, none⟩)] w fun e w' => e = .returned (.tuple #[.int .i64 r.record.1, encStr r.record.2.1]) ∧ RdAt w' gr r.record.2.2 ∧ w.grownBy w' (some gr) := by
  have HN1 := hide (number_any gr r w h)
  have HN2 := hide (fun w' h' => number_any gr r.number.2 w' h')
  have HN3 := hide (fun w' h' => number_any gr r.number.2.number.2 w' h')
  have HP := hide (fun w' h' => piece_any gr r.number.2.number.2.number.2 (r.number.2.number.1 * 256 + r.number.2.number.2.number.1) w' h')
  have b2 := r.number.2.number_lt
  have b3 := r.number.2.number.2.number_lt
  unfold Rd.record
  generalize r.number = x1 at *
  obtain ⟨n1, r1⟩ := x1
  simp only at HN1 HN2 HN3 HP b2 b3 ⊢
  generalize r1.number = x2 at *
  obtain ⟨n2, r2⟩ := x2
  simp only at HN2 HN3 HP b2 b3 ⊢
  generalize r2.number = x3 at *
  obtain ⟨n3, r3⟩ := x3
  simp only at HN3 HP b3 ⊢
  have e : (n2 : Int) * 256 + (n3 : Int) = ((n2 * 256 + n3 : Nat) : Int) := by omega
  have HP' : Hid (∀ w', RdAt w' gr r3 → Calls Tryz.prog 130 #[.pointer (some ⟨gr, 0, none⟩), .int .i64 ((n2 : Int) * 256 + (n3 : Int))] w' fun e w2 => e = .returned (encStr (r3.piece (n2 * 256 + n3)).1) ∧ RdAt w2 gr (r3.piece (n2 * 256 + n3)).2 ∧ w'.grownBy w2 (some gr)) := fun w' h' => by
    rw [e]; exact HP.out w' h'
  generalize r3.piece (n2 * 256 + n3) = pr at *
  obtain ⟨p, r4⟩ := pr
  simp only at HP' ⊢
  clear h HP e
  go_enter Tryz.func103, Tryz.ntmps103
  go_wp2_with fail
  refine HN1.out.mono ?_
  rintro e w1 ⟨rfl, h1, g1⟩
  have HN2' := hide (HN2.out w1 h1)
  have G1 := hide g1
  clear h1 g1
  go_wp2_with fail
  refine HN2'.out.mono ?_
  rintro e w2 ⟨rfl, h2, g2⟩
  have HN3' := hide (HN3.out w2 h2)
  have G2 := hide (grown_trans G1.out g2)
  clear h2 g2
  go_wp2_with fail
  refine HN3'.out.mono ?_
  rintro e w3 ⟨rfl, h3, g3⟩
  have HP3 := hide (HP'.out w3 h3)
  have G3 := hide (grown_trans G2.out g3)
  clear h3 g3
  go_wp2_with fail
  refine HP3.out.mono ?_
  rintro e w4 ⟨rfl, h4, g4⟩
  have H4 := hide h4
  have G4 := hide (grown_trans G3.out g4)
  clear h4 g4
  go_wp2_with fail
  go_ret2
  exact ⟨rfl, H4.out, G4.out⟩

/-- An event as its bytes say it. -/
def Rd.event (r : Rd) : Ev × Rd :=
  if r.number.1 ≠ 0 then (⟨r.number.1, noBat, r.number.2.number.1, r.number.2.number.2.number.1⟩, r.number.2.number.2.number.2)
  else (⟨0, ⟨r.number.2.number.1, r.number.2.number.2.text.1, r.number.2.number.2.text.2.text.1, r.number.2.number.2.text.2.text.2.text.1, 0, 0⟩, 0, 0⟩, r.number.2.number.2.text.2.text.2.text.2)

/-- While an event is read: the reader, the result's block, the event's block. -/
structure EvAt (w W : World) (gr gE : Nat) (r : Rd) (cs : Array Value) : Prop where
  rd : RdAt W gr r
  res : Blk W w.heap.size #[.int .i64 0, .int .i64 0, .string ⟨#[]⟩, .string ⟨#[]⟩, .string ⟨#[]⟩, .int .i64 0, .int .i64 0] 151
  ev : Blk W gE cs 151
  gw : w.grownBy W (some gr)
  lt : w.heap.size < gE
  hr : gr < w.heap.size
theorem EvAt.call {w W W' : World} {gr gE : Nat} {r r' : Rd} {cs : Array Value} (h : EvAt w W gr gE r cs) (h' : RdAt W' gr r') (g : W.grownBy W' (some gr)) : EvAt w W' gr gE r' cs :=
  ⟨h', h.res.grown g (by have := h.hr; simp; omega), h.ev.grown g (by have := h.hr; have := h.lt; simp; omega), grown_trans h.gw g, h.lt, h.hr⟩
theorem grown_high {w W : World} {r : Option Nat} (h : w.grownBy W r) {g : Nat} (hg : w.heap.size ≤ g) (i : Nat) (v : Value) : w.grownBy (W.setCell ⟨g, i, none⟩ v) r :=
  ⟨h.os, h.tape, h.output, by simp [World.setCell]; exact h.size, fun k hk hn => (Below.heap_setCell _ _ _ _ (fun e => by simp at e; omega)).trans (h.block k hk hn)⟩
theorem grown_alloc {w W : World} {r : Option Nat} (h : w.grownBy W r) (o : Obj) : w.grownBy (W.alloc o) r :=
  ⟨h.os, h.tape, h.output, by simp; exact Nat.le_succ_of_le h.size, fun k hk hn => (Below.heap_alloc _ _ _ (Nat.lt_of_lt_of_le hk h.size)).trans (h.block k hk hn)⟩
theorem EvAt.set {w W : World} {gr gE : Nat} {r : Rd} {cs : Array Value} (h : EvAt w W gr gE r cs) (i : Nat) (v : Value) : EvAt w (W.setCell ⟨gE, i, none⟩ v) gr gE r (cs.setIfInBounds i v) :=
  ⟨Blk.other h.rd _ _ (by have := h.hr; have := h.lt; simp; omega), h.res.other _ _ (by have := h.lt; simp; omega), h.ev.set i v, grown_high h.gw (Nat.le_of_lt h.lt) i v, h.lt, h.hr⟩
/-- The event is handed back. -/
theorem EvAt.out {w W : World} {gr gE : Nat} {r : Rd} {cs : Array Value} (h : EvAt w W gr gE r cs) (v0 v1 v2 v3 v4 v5 v6 : Value) :
    Blk (((((((W.setCell ⟨w.heap.size, 0, none⟩ v0).setCell ⟨w.heap.size, 1, none⟩ v1).setCell ⟨w.heap.size, 2, none⟩ v2).setCell ⟨w.heap.size, 3, none⟩ v3).setCell ⟨w.heap.size, 4, none⟩ v4).setCell ⟨w.heap.size, 5, none⟩ v5).setCell ⟨w.heap.size, 6, none⟩ v6) w.heap.size #[v0, v1, v2, v3, v4, v5, v6] 151 ∧ RdAt (((((((W.setCell ⟨w.heap.size, 0, none⟩ v0).setCell ⟨w.heap.size, 1, none⟩ v1).setCell ⟨w.heap.size, 2, none⟩ v2).setCell ⟨w.heap.size, 3, none⟩ v3).setCell ⟨w.heap.size, 4, none⟩ v4).setCell ⟨w.heap.size, 5, none⟩ v5).setCell ⟨w.heap.size, 6, none⟩ v6) gr r ∧ w.grownBy (((((((W.setCell ⟨w.heap.size, 0, none⟩ v0).setCell ⟨w.heap.size, 1, none⟩ v1).setCell ⟨w.heap.size, 2, none⟩ v2).setCell ⟨w.heap.size, 3, none⟩ v3).setCell ⟨w.heap.size, 4, none⟩ v4).setCell ⟨w.heap.size, 5, none⟩ v5).setCell ⟨w.heap.size, 6, none⟩ v6) (some gr) := by
  have hr := h.hr
  have hne : gr ≠ w.heap.size := by omega
  refine ⟨((((((h.res.set 0 v0).set 1 v1).set 2 v2).set 3 v3).set 4 v4).set 5 v5).set 6 v6, ?_, ?_⟩
  · exact Blk.other (Blk.other (Blk.other (Blk.other (Blk.other (Blk.other (Blk.other h.rd _ _ (by simpa using hne)) _ _ (by simpa using hne)) _ _ (by simpa using hne)) _ _ (by simpa using hne)) _ _ (by simpa using hne)) _ _ (by simpa using hne)) _ _ (by simpa using hne)
  · exact grown_high (grown_high (grown_high (grown_high (grown_high (grown_high (grown_high h.gw (Nat.le_refl _) _ _) (Nat.le_refl _) _ _) (Nat.le_refl _) _ _) (Nat.le_refl _) _ _) (Nat.le_refl _) _ _) (Nat.le_refl _) _ _) (Nat.le_refl _) _ _

set_option maxRecDepth 100000 in
set_option maxHeartbeats 2000000 in
theorem rdEvent_any (gr : Nat) (r : Rd) (w : World) (h : RdAt w gr r) : Calls Tryz.prog 131 #[.pointer (some ⟨gr, 0, none⟩)] w fun e w' => e = .returned r.event.1.val ∧ RdAt w' gr r.event.2 ∧ w.grownBy w' (some gr) := by
  have hgr : gr < w.heap.size := Blk.lt h
  have HN1 := hide (number_any gr r (w.alloc (.cells #[.int .i64 0, .int .i64 0, .string ⟨#[]⟩, .string ⟨#[]⟩, .string ⟨#[]⟩, .int .i64 0, .int .i64 0] 151)) (Blk.alloc h _))
  have HN2 := hide (fun w' h' => number_any gr r.number.2 w' h')
  have HN3 := hide (fun w' h' => number_any gr r.number.2.number.2 w' h')
  have HT1 := hide (fun w' h' => text_any gr r.number.2.number.2 w' h')
  have HT2 := hide (fun w' h' => text_any gr r.number.2.number.2.text.2 w' h')
  have HT3 := hide (fun w' h' => text_any gr r.number.2.number.2.text.2.text.2 w' h')
  unfold Rd.event
  generalize r.number = x1 at *
  obtain ⟨n1, r1⟩ := x1
  simp only at HN1 HN2 HN3 HT1 HT2 HT3 ⊢
  generalize r1.number = x2 at *
  obtain ⟨n2, r2⟩ := x2
  simp only at HN2 HN3 HT1 HT2 HT3 ⊢
  by_cases hk : n1 = 0
  · subst hk
    rw [if_neg (by simp)]
    generalize r2.text = x3 at *
    obtain ⟨t1, r3⟩ := x3
    simp only at HT1 HT2 HT3 ⊢
    generalize r3.text = x4 at *
    obtain ⟨t2, r4⟩ := x4
    simp only at HT2 HT3 ⊢
    generalize r4.text = x5 at *
    obtain ⟨t3, r5⟩ := x5
    simp only at HT3 ⊢
    clear h HN3
    go_enter Tryz.func131, Tryz.ntmps131
    go_wp2_with fail
    refine HN1.out.mono ?_
    rintro e w1 ⟨rfl, h1, g1⟩
    have hR1 : Blk w1 w.heap.size #[.int .i64 0, .int .i64 0, .string ⟨#[]⟩, .string ⟨#[]⟩, .string ⟨#[]⟩, .int .i64 0, .int .i64 0] 151 := (Blk.new w _ _).grown g1 (by simp; omega)
    have hE0 : ∀ cs, EvAt w (w1.alloc (.cells cs 151)) gr w1.heap.size r1 cs := fun cs => ⟨Blk.alloc h1 _, hR1.alloc _, Blk.new w1 _ _, grown_alloc (grown_trans (grown_alloc (grown_refl w _) _) g1) _, hR1.lt, hgr⟩
    have HE0 := hide hE0
    clear h1 g1 hR1 hE0
    go_wp2_with fail
    generalize hW2 : World.alloc w1 _ = W2
    have HE2 : Hid (EvAt w W2 gr w1.heap.size r1 #[.int .i64 0, .int .i64 0, .string ⟨#[]⟩, .string ⟨#[]⟩, .string ⟨#[]⟩, .int .i64 0, .int .i64 0]) := by rw [← hW2]; exact HE0.out _
    clear hW2 HE0 HN1
    generalize w1.heap.size = gE at *
    refine (HN2.out W2 HE2.out.rd).mono ?_
    rintro e w3 ⟨rfl, h3, g3⟩
    have HE3 := hide (HE2.out.call h3 g3)
    have c3 : w3.cell? ⟨gE, 1, none⟩ = some (.int .i64 0) := HE3.out.ev.cell 1
    have f3 := HE3.out.ev.frozen 1
    clear h3 g3 HE2
    go_wp2_with fail
    generalize hW4 : w3.setCell ⟨gE, 1, none⟩ _ = W4
    have HE4 : Hid (EvAt w W4 gr gE r2 #[.int .i64 0, .int .i64 n2, .string ⟨#[]⟩, .string ⟨#[]⟩, .string ⟨#[]⟩, .int .i64 0, .int .i64 0]) := by rw [← hW4]; exact HE3.out.set 1 (.int .i64 n2)
    clear hW4 HE3 c3 f3
    refine (HT1.out W4 HE4.out.rd).mono ?_
    rintro e w5 ⟨rfl, h5, g5⟩
    have HE5 := hide (HE4.out.call h5 g5)
    have c5 : w5.cell? ⟨gE, 2, none⟩ = some (.string ⟨#[]⟩) := HE5.out.ev.cell 2
    have f5 := HE5.out.ev.frozen 2
    clear h5 g5 HE4
    go_wp2_with fail
    generalize hW6 : w5.setCell ⟨gE, 2, none⟩ _ = W6
    have HE6 : Hid (EvAt w W6 gr gE r3 #[.int .i64 0, .int .i64 n2, encStr t1, .string ⟨#[]⟩, .string ⟨#[]⟩, .int .i64 0, .int .i64 0]) := by rw [← hW6]; exact HE5.out.set 2 (encStr t1)
    clear hW6 HE5 c5 f5
    refine (HT2.out W6 HE6.out.rd).mono ?_
    rintro e w7 ⟨rfl, h7, g7⟩
    have HE7 := hide (HE6.out.call h7 g7)
    have c7 : w7.cell? ⟨gE, 3, none⟩ = some (.string ⟨#[]⟩) := HE7.out.ev.cell 3
    have f7 := HE7.out.ev.frozen 3
    clear h7 g7 HE6
    go_wp2_with fail
    generalize hW8 : w7.setCell ⟨gE, 3, none⟩ _ = W8
    have HE8 : Hid (EvAt w W8 gr gE r4 #[.int .i64 0, .int .i64 n2, encStr t1, encStr t2, .string ⟨#[]⟩, .int .i64 0, .int .i64 0]) := by rw [← hW8]; exact HE7.out.set 3 (encStr t2)
    clear hW8 HE7 c7 f7
    refine (HT3.out W8 HE8.out.rd).mono ?_
    rintro e w9 ⟨rfl, h9, g9⟩
    have HE9 := hide (HE8.out.call h9 g9)
    have HE10 : Hid (EvAt w (w9.setCell ⟨gE, 4, none⟩ (encStr t3)) gr gE r5 #[.int .i64 0, .int .i64 n2, encStr t1, encStr t2, encStr t3, .int .i64 0, .int .i64 0]) := HE9.out.set 4 (encStr t3)
    have hne : ¬ (w.heap.size = gE) := fun e => by have := HE9.out.lt; omega
    have hne2 : ¬ (gE = w.heap.size) := fun e => hne e.symm
    have e0 : w9.cell? ⟨gE, 0, none⟩ = some (.int .i64 0) := HE9.out.ev.cell 0
    have e1 : w9.cell? ⟨gE, 1, none⟩ = some (.int .i64 n2) := HE9.out.ev.cell 1
    have e2 : w9.cell? ⟨gE, 2, none⟩ = some (encStr t1) := HE9.out.ev.cell 2
    have e3 : w9.cell? ⟨gE, 3, none⟩ = some (encStr t2) := HE9.out.ev.cell 3
    have e4 : w9.cell? ⟨gE, 4, none⟩ = some (.string ⟨#[]⟩) := HE9.out.ev.cell 4
    have e5 : w9.cell? ⟨gE, 5, none⟩ = some (.int .i64 0) := HE9.out.ev.cell 5
    have e6 : w9.cell? ⟨gE, 6, none⟩ = some (.int .i64 0) := HE9.out.ev.cell 6
    have f6 := HE9.out.ev.frozen 4
    have p0 : w9.cell? ⟨w.heap.size, 0, none⟩ = some (.int .i64 0) := HE9.out.res.cell 0
    have p1 : w9.cell? ⟨w.heap.size, 1, none⟩ = some (.int .i64 0) := HE9.out.res.cell 1
    have p2 : w9.cell? ⟨w.heap.size, 2, none⟩ = some (.string ⟨#[]⟩) := HE9.out.res.cell 2
    have p3 : w9.cell? ⟨w.heap.size, 3, none⟩ = some (.string ⟨#[]⟩) := HE9.out.res.cell 3
    have p4 : w9.cell? ⟨w.heap.size, 4, none⟩ = some (.string ⟨#[]⟩) := HE9.out.res.cell 4
    have p5 : w9.cell? ⟨w.heap.size, 5, none⟩ = some (.int .i64 0) := HE9.out.res.cell 5
    have p6 : w9.cell? ⟨w.heap.size, 6, none⟩ = some (.int .i64 0) := HE9.out.res.cell 6
    have rf := fun o => HE9.out.res.frozen o
    clear h9 g9 HE8 HE9
    go_wp2_with fail
    obtain ⟨q1, q2, q3⟩ := HE10.out.out (.int .i64 0) (.int .i64 n2) (encStr t1) (encStr t2) (encStr t3) (.int .i64 0) (.int .i64 0)
    refine bodyPost_ret (v := .agg #[.int .i64 0, .int .i64 n2, encStr t1, encStr t2, encStr t3, .int .i64 0, .int .i64 0]) (results_cell1 Tryz.results131 rfl (run_loadVar_mid _ _ 0 151 [.int .i64 0, .int .i64 n2, encStr t1, encStr t2, encStr t3, .int .i64 0, .int .i64 0] _ (q1.range 0 _ rfl) Tryz.underlying151 rfl infoEv)) rfl ⟨rfl, q2, q3⟩
  · rw [if_pos hk]
    generalize r2.number = x3 at *
    obtain ⟨n3, r3⟩ := x3
    simp only at HN3 ⊢
    clear h HT1 HT2 HT3
    go_enter Tryz.func131, Tryz.ntmps131
    go_wp2_with fail
    refine HN1.out.mono ?_
    rintro e w1 ⟨rfl, h1, g1⟩
    have hR1 : Blk w1 w.heap.size #[.int .i64 0, .int .i64 0, .string ⟨#[]⟩, .string ⟨#[]⟩, .string ⟨#[]⟩, .int .i64 0, .int .i64 0] 151 := (Blk.new w _ _).grown g1 (by simp; omega)
    have hE0 : ∀ cs, EvAt w (w1.alloc (.cells cs 151)) gr w1.heap.size r1 cs := fun cs => ⟨Blk.alloc h1 _, hR1.alloc _, Blk.new w1 _ _, grown_alloc (grown_trans (grown_alloc (grown_refl w _) _) g1) _, hR1.lt, hgr⟩
    have HE0 := hide hE0
    clear h1 g1 hR1 hE0
    go_wp2_with fail
    generalize hW2 : World.alloc w1 _ = W2
    have HE2 : Hid (EvAt w W2 gr w1.heap.size r1 #[.int .i64 n1, .int .i64 0, .string ⟨#[]⟩, .string ⟨#[]⟩, .string ⟨#[]⟩, .int .i64 0, .int .i64 0]) := by rw [← hW2]; exact HE0.out _
    clear hW2 HE0 HN1
    generalize w1.heap.size = gE at *
    refine (HN2.out W2 HE2.out.rd).mono ?_
    rintro e w3 ⟨rfl, h3, g3⟩
    have HE3 := hide (HE2.out.call h3 g3)
    have c5 : w3.cell? ⟨gE, 5, none⟩ = some (.int .i64 0) := HE3.out.ev.cell 5
    have f5 := HE3.out.ev.frozen 5
    clear h3 g3 HE2
    go_wp2_with fail
    generalize hW4 : w3.setCell ⟨gE, 5, none⟩ _ = W4
    have HE4 : Hid (EvAt w W4 gr gE r2 #[.int .i64 n1, .int .i64 0, .string ⟨#[]⟩, .string ⟨#[]⟩, .string ⟨#[]⟩, .int .i64 n2, .int .i64 0]) := by rw [← hW4]; exact HE3.out.set 5 (.int .i64 n2)
    clear hW4 HE3 c5 f5
    refine (HN3.out W4 HE4.out.rd).mono ?_
    rintro e w5 ⟨rfl, h5, g5⟩
    have HE5 := hide (HE4.out.call h5 g5)
    have HE6 : Hid (EvAt w (w5.setCell ⟨gE, 6, none⟩ (.int .i64 n3)) gr gE r3 #[.int .i64 n1, .int .i64 0, .string ⟨#[]⟩, .string ⟨#[]⟩, .string ⟨#[]⟩, .int .i64 n2, .int .i64 n3]) := HE5.out.set 6 (.int .i64 n3)
    have hne : ¬ (w.heap.size = gE) := fun e => by have := HE5.out.lt; omega
    have hne2 : ¬ (gE = w.heap.size) := fun e => hne e.symm
    have e0 : w5.cell? ⟨gE, 0, none⟩ = some (.int .i64 n1) := HE5.out.ev.cell 0
    have e1 : w5.cell? ⟨gE, 1, none⟩ = some (.int .i64 0) := HE5.out.ev.cell 1
    have e2 : w5.cell? ⟨gE, 2, none⟩ = some (.string ⟨#[]⟩) := HE5.out.ev.cell 2
    have e3 : w5.cell? ⟨gE, 3, none⟩ = some (.string ⟨#[]⟩) := HE5.out.ev.cell 3
    have e4 : w5.cell? ⟨gE, 4, none⟩ = some (.string ⟨#[]⟩) := HE5.out.ev.cell 4
    have e5 : w5.cell? ⟨gE, 5, none⟩ = some (.int .i64 n2) := HE5.out.ev.cell 5
    have e6 : w5.cell? ⟨gE, 6, none⟩ = some (.int .i64 0) := HE5.out.ev.cell 6
    have f6 := HE5.out.ev.frozen 6
    have r0 : w5.cell? ⟨w.heap.size, 0, none⟩ = some (.int .i64 0) := HE5.out.res.cell 0
    have r1' : w5.cell? ⟨w.heap.size, 1, none⟩ = some (.int .i64 0) := HE5.out.res.cell 1
    have r2' : w5.cell? ⟨w.heap.size, 2, none⟩ = some (.string ⟨#[]⟩) := HE5.out.res.cell 2
    have r3' : w5.cell? ⟨w.heap.size, 3, none⟩ = some (.string ⟨#[]⟩) := HE5.out.res.cell 3
    have r4' : w5.cell? ⟨w.heap.size, 4, none⟩ = some (.string ⟨#[]⟩) := HE5.out.res.cell 4
    have r5' : w5.cell? ⟨w.heap.size, 5, none⟩ = some (.int .i64 0) := HE5.out.res.cell 5
    have r6' : w5.cell? ⟨w.heap.size, 6, none⟩ = some (.int .i64 0) := HE5.out.res.cell 6
    have rf := fun o => HE5.out.res.frozen o
    clear h5 g5 HE4 HE5
    go_wp2_with fail
    obtain ⟨q1, q2, q3⟩ := HE6.out.out (.int .i64 n1) (.int .i64 0) (.string ⟨#[]⟩) (.string ⟨#[]⟩) (.string ⟨#[]⟩) (.int .i64 n2) (.int .i64 n3)
    refine bodyPost_ret (v := .agg #[.int .i64 n1, .int .i64 0, .string ⟨#[]⟩, .string ⟨#[]⟩, .string ⟨#[]⟩, .int .i64 n2, .int .i64 n3]) (results_cell1 Tryz.results131 rfl (run_loadVar_mid _ _ 0 151 [.int .i64 n1, .int .i64 0, .string ⟨#[]⟩, .string ⟨#[]⟩, .string ⟨#[]⟩, .int .i64 n2, .int .i64 n3] _ (q1.range 0 _ rfl) Tryz.underlying151 rfl infoEv)) rfl ⟨rfl, q2, q3⟩
end Go.Proofs.YtojpjaifhjigfaaGreatDoor
