/- Steps of the proof (several texts in one): TakenFilter, ArgsOps. -/
import Derived.Test.YtojpjaifhjigfaaGreatDoorMTakenupto10
import Derived.Test.YtojpjaifhjigfaaGreatDoorMTakenupto08
import Derived.Lib.SmallJoins

/- Taken: the script that comes in, and what is left of it. -/
namespace Go.Proofs.YtojpjaifhjigfaaGreatDoor
open Go.RowKit Go.Maps
attribute [local go_sem] run_store_float

/-- A script in memory. -/
def OpsAt (w : World) (a : Option Addr) (os : List Opn) : Prop := os = [] ∨ ∃ b off, a = some ⟨b, off, none⟩ ∧ b < w.heap.size ∧ ∀ k o, os[k]? = some o → w.rangeAt b (off + k * 11) o.cells
theorem OpsAt.below {w w' : World} {a : Option Addr} {os : List Opn} (h : OpsAt w a os) (hb : Below w.heap.size w w') : OpsAt w' a os := by
  rcases h with h | ⟨b, off, h1, h2, h3⟩
  · exact Or.inl h
  · exact Or.inr ⟨b, off, h1, Nat.lt_of_lt_of_le h2 hb.size, fun k o ho j v hv => (hb.cell (p := ⟨b, _, none⟩) h2).trans (h3 k o ho j v hv)⟩

/-- What Taken plays of a script. -/
def plays (os : List Opn) : List Opn := os.filter fun o => decide (o.k ≠ 3) && decide (o.k ≠ 4)
theorem plays_take {os : List Opn} {k : Nat} {o : Opn} (h : os[k]? = some o) : plays (os.take (k + 1)) = plays (os.take k) ++ (if o.k ≠ 3 ∧ o.k ≠ 4 then [o] else []) := by
  have hk : k < os.length := (List.getElem?_eq_some_iff.1 h).1
  have hb : os[k] = o := (List.getElem?_eq_some_iff.1 h).2
  unfold plays
  rw [List.take_succ_eq_append_getElem hk, List.filter_append, hb]
  congr 1
  simp only [List.filter_cons, List.filter_nil]
  by_cases h3 : o.k = 3 <;> by_cases h4 : o.k = 4 <;> simp [h3, h4]
theorem plays_le (os : List Opn) : (plays os).length ≤ os.length := List.length_filter_le _ _
theorem infoOp : (Tryz.prog.info? 47).map (·.size) = some 11 := by kernel_rfl
theorem infoOp3 : (Tryz.prog.info? 47).map (fun i => (i.zero, i.size, i.bytes)) = some (some (.agg #[.int .i64 0, .int .i64 0, .int .i64 0, .string ⟨#[]⟩, .string ⟨#[]⟩, .string ⟨#[]⟩, .int .i64 0, .int .i64 0, .int .i64 0, .bool false, .bool false]), 11, 104) := by kernel_rfl

theorem splice_out : ∀ (l : List Value) (cs : Array Value) (o i : Nat), i < o ∨ o + l.length ≤ i → (splice cs o l)[i]? = cs[i]? := by
  intro l
  induction l with
  | nil => intro cs o i _; rfl
  | cons v r ih =>
    intro cs o i h
    simp only [splice]
    simp only [List.length_cons] at h
    rw [ih _ _ _ (by omega), Array.getElem?_setIfInBounds_ne (by omega)]
theorem splice_in : ∀ (l : List Value) (cs : Array Value) (o j : Nat) (v : Value), o + l.length ≤ cs.size → l[j]? = some v → (splice cs o l)[o + j]? = some v := by
  intro l
  induction l with
  | nil => intro cs o j v _ h; simp at h
  | cons x r ih =>
    intro cs o j v hs h
    simp only [splice]
    simp only [List.length_cons] at hs
    cases j with
    | zero =>
      rw [splice_out r _ (o + 1) (o + 0) (by omega)]
      simp at h
      subst h
      simp [show o < cs.size by omega]
    | succ j =>
      have := ih (cs.setIfInBounds o x) (o + 1) j v (by simp; omega) (by simpa using h)
      rw [show o + (j + 1) = o + 1 + j by omega]
      exact this

theorem CfgAt.keepN {w w' : World} {L L' : Labs} {cur cur' : Array Value} {n : Nat} {c : Cfg} {m : Option Nat} {D : DataW Unit} (h : CfgAt w L cur n c m D) {p : Lab → Prop} (s : Step p L w L' w') (hp : ¬ p none) (hc : ∀ i, n * 11 ≤ i → i < n * 11 + 11 → cur'[i]? = cur[i]?) : CfgAt w' L' cur' n c m D := by
  refine ⟨fun j v hv => ?_, ?_, fun b hb => ?_⟩
  · have hj : j < 11 := (Array.getElem?_eq_some_iff.1 hv).1
    rw [hc _ (by omega) (by omega)]
    exact h.cell j v hv
  · rcases h.map with q | ⟨b, n', h1, h2, h3⟩
    · exact Or.inl q
    · exact Or.inr ⟨b, n', h1, ownsMap_of_block h2 (s.block b h2.lt (by rw [h.lab b h1]; exact hp)), h3⟩
  · rcases h.map with ⟨q, _⟩ | ⟨b', n', h1, h2, h3⟩
    · rw [hb] at q; cases q
    · rw [hb] at h1
      cases h1
      rw [s.lab _ h2.lt]
      exact h.lab _ hb

/-- A configuration is stored into the world. -/
theorem WAt.stored {w : World} {L : Labs} {gw : Nat} {A : Nat → Addr} {cur : Array Value} {pv tv mv : Value} {np nt nm : Nat} {ps : List Value} (h : WAt w L gw A cur pv tv mv np nt nm ps) (n : Nat) (hn : n < 2) (c : Cfg) {m : Option Nat} {D : DataW Unit} (hM : MapAt w m D) (hlab : ∀ b, m = some b → L b = none) :
    WAt (w.setCells gw (n * 11) (c.cells m).toList) L gw A (splice cur (n * 11) (c.cells m).toList) pv tv mv np nt nm ps ∧ CfgAt (w.setCells gw (n * 11) (c.cells m).toList) L (splice cur (n * 11) (c.cells m).toList) n c m D ∧
      (∀ i, i < n * 11 ∨ n * 11 + 11 ≤ i → (splice cur (n * 11) (c.cells m).toList)[i]? = cur[i]?) ∧ Step (fun l => l = bl 2 0) L w L (w.setCells gw (n * 11) (c.cells m).toList) := by
  have hl := (Array.getElem?_eq_some_iff.1 h.c25).1
  have hlen : (c.cells m).toList.length = 11 := rfl
  have s : Step (fun l => l = bl 2 0) L w L (w.setCells gw (n * 11) (c.cells m).toList) := Step.setCells L h.blk.2 _ _ _
  have ho : ∀ i, i < n * 11 ∨ n * 11 + 11 ≤ i → (splice cur (n * 11) (c.cells m).toList)[i]? = cur[i]? := fun i hi => splice_out _ _ _ _ (by rw [hlen]; exact hi)
  refine ⟨⟨⟨h.blk.1.setCells _ _, h.blk.2⟩, by rw [ho 22 (by omega)]; exact h.c22, by rw [ho 23 (by omega)]; exact h.c23, by rw [ho 24 (by omega)]; exact h.c24, by rw [ho 25 (by omega)]; exact h.c25, h.prs.keep s (by simp [bl]), fun i v hv => ?_, h.txt.keep s (by simp [bl]) (fun _ _ => by simp [bl]), h.mps.keep s (by simp [bl]) (fun _ _ => by simp [bl]), h.err.keep s (by simp [bl])⟩, ⟨fun j v hv => splice_in _ _ _ _ _ (by rw [hlen]; omega) (by simpa using hv), ?_, hlab⟩, ho, s⟩
  · obtain ⟨gp, M, R, e, hP⟩ := h.pr i v hv
    exact ⟨gp, M, R, e, hP.keep s (by simp [bl]) (fun q => by simp [bl]) (fun q => by simp [bl])⟩
  · rcases hM with q | ⟨b, n', h1, h2, h3⟩
    · exact Or.inl q
    · exact Or.inr ⟨b, n', h1, ownsMap_of_block h2 (s.block b h2.lt (by rw [hlab b h1]; simp [bl])), h3⟩

/-- The cells of a World that plays up to seven. -/
abbrev wc7 (c0 c1 : Cfg) (m0 m1 : Option Nat) : Array Value :=
  #[.int .i64 c0.d, .map m0, .int .i64 c0.q, .int .i64 c0.at', .int .i64 c0.ba, .int .i64 c0.ca, .int .i64 c0.ti, .int .i64 c0.wi, .int .i64 c0.le, .float .f64 c0.th, .int .i64 c0.op,
    .int .i64 c1.d, .map m1, .int .i64 c1.q, .int .i64 c1.at', .int .i64 c1.ba, .int .i64 c1.ca, .int .i64 c1.ti, .int .i64 c1.wi, .int .i64 c1.le, .float .f64 c1.th, .int .i64 c1.op, .slice none 0 0, .slice none 0 0, .slice none 0 0, .slice none 0 0, .int .i64 7]

theorem wc7_one {c0 c1 : Cfg} {m0 m1 : Option Nat} {j : Nat} {v : Value} (h : (c1.cells m1)[j]? = some v) : (wc7 c0 c1 m0 m1)[1 * 11 + j]? = some v := by
  have hj : j < 11 := (Array.getElem?_eq_some_iff.1 h).1
  match j, hj with
  | 0, _ | 1, _ | 2, _ | 3, _ | 4, _ | 5, _ | 6, _ | 7, _ | 8, _ | 9, _ | 10, _ => exact h

/-- What is played first. -/
def firstOps : List Opn := [⟨2, 0, ⟨0, [97], [49], [110, 105, 110, 101, 32, 98, 121, 116, 101], 0, 0⟩, 0, 0, 0, false, false⟩, ⟨5, 0, ⟨0, [], [49], [], 0, 0⟩, 0, 0, 0, false, false⟩]
theorem firstOk : ∀ o ∈ firstOps, o.Ok ∧ o.k ≠ 3 ∧ o.k ≠ 4 := by
  intro o ho
  simp only [firstOps, List.mem_cons, List.not_mem_nil, or_false] at ho
  rcases ho with rfl | rfl <;> exact ⟨⟨by decide, by decide, by decide, by decide, by simp [maxLen]⟩, by decide, by decide⟩

/-- A world of the second loop. -/
def Played (W0 : World) (L0 : Labs) (G : Nat) (A : Nat → Addr) (c d : Cfg) (m0 m1 : Option Nat) (D0 D1 : DataW Unit) (t : Nat) (w : World) : Prop :=
  ∃ L cur pv tv mv np nt nm ps, WAt w L G A cur pv tv mv np nt nm ps ∧ CfgAt w L cur 0 c m0 D0 ∧ CfgAt w L cur 1 d m1 D1 ∧ cur[26]? = some (.int .i64 7) ∧ 1 ≤ np ∧ np ≤ 1 + t ∧ nt % 4 = 0 ∧ nt ≤ 8 * t ∧ nm ≤ 2 * t ∧ Step someP L0 W0 L w

theorem Played.step {W0 w : World} {L0 : Labs} {G : Nat} {A : Nat → Addr} {c d : Cfg} {m0 m1 : Option Nat} {D0 D1 : DataW Unit} {t : Nat} (h : Played W0 L0 G A c d m0 m1 D0 D1 t w) (ht : t ≤ 500000) (o : Opn) (ho : o.Ok ∧ o.k ≠ 3 ∧ o.k ≠ 4) (X : World) (hX : Below w.heap.size w X) :
    Calls Tryz.prog 18 #[.pointer (some ⟨G, 0, none⟩), o.val] X fun e w' => e = .returned (.bool true) ∧ Played W0 L0 G A c d m0 m1 D0 D1 (t + 1) w' := by
  obtain ⟨L, cur, pv, tv, mv, np, nt, nm, ps, q1, q2, q3, q4, q5, q6, q7, q8, q9, q10⟩ := h
  have hs := Step.of_below (p := fun _ => False) (L := L) hX
  refine (step_any L G A o cur pv tv mv np nt nm ps c d m0 m1 D0 D1 X (q1.below hX) (q2.keepN hs (fun h => h) (fun _ _ _ => rfl)) (q3.keepN hs (fun h => h) (fun _ _ _ => rfl)) q4 ho.1 ho.2.1 ho.2.2 q7 q5 (by omega) (by omega) (by omega)).mono ?_
  rintro e w' ⟨rfl, L', cur', pv', tv', mv', np', nt', nm', ps', r1, r2, r3, r4, r5, r6, r7, r8⟩
  have hsX := Step.of_below (p := someP) (L := L) hX
  refine ⟨rfl, L', cur', pv', tv', mv', np', nt', nm', ps', r1, (q2.keepN (hsX.trans r8) (by simp [someP]) (fun i _ h2 => r7 i (by omega))), (q3.keepN (hsX.trans r8) (by simp [someP]) (fun i _ h2 => r7 i (by omega))), (r7 26 (by omega)).trans q4, by omega, by omega, r4, by omega, by omega, (q10.trans hsX).trans r8⟩

theorem Played.whole {W0 w : World} {L0 : Labs} {G : Nat} {A : Nat → Addr} {c d : Cfg} {m0 m1 : Option Nat} {D0 D1 : DataW Unit} {t : Nat} (h : Played W0 L0 G A c d m0 m1 D0 D1 t w) (ht : t ≤ 500000) :
    Calls Tryz.prog 19 #[.pointer (some ⟨G, 23, none⟩)] w fun e w' => e = .returned (.bool true) ∧ Played W0 L0 G A c d m0 m1 D0 D1 t w' := by
  obtain ⟨L, cur, pv, tv, mv, np, nt, nm, ps, q1, q2, q3, q4, q5, q6, q7, q8, q9, q10⟩ := h
  refine (whole_any L G nt nm tv mv cur w q1.blk q1.c23 q1.c24 q1.c25 q1.txt q1.mps (by omega) (by omega)).mono ?_
  rintro e w' ⟨rfl, hb⟩
  have hs := Step.of_below (p := fun _ => False) (L := L) hb
  exact ⟨rfl, L, cur, pv, tv, mv, np, nt, nm, ps, q1.below hb, q2.keepN hs (fun h => h) (fun _ _ _ => rfl), q3.keepN hs (fun h => h) (fun _ _ _ => rfl), q4, q5, q6, q7, q8, q9, q10.trans (Step.of_below hb)⟩

theorem Played.asked {W0 w : World} {L0 : Labs} {G : Nat} {A : Nat → Addr} {c d : Cfg} {m0 m1 : Option Nat} {D0 D1 : DataW Unit} {t : Nat} (h : Played W0 L0 G A c d m0 m1 D0 D1 t w) (ht : t ≤ 400002) :
    Calls Tryz.prog 17 #[.pointer (some ⟨G, 0, none⟩)] w fun e w' => e = .returned (.bool true) ∧ ∃ L', Step someP L0 W0 L' w' := by
  obtain ⟨L, cur, pv, tv, mv, np, nt, nm, ps, q1, q2, q3, q4, q5, q6, q7, q8, q9, q10⟩ := h
  refine (asked_any L G A cur pv tv mv np nt nm ps w q1 q7 (by omega) (by omega)).mono ?_
  rintro e w' ⟨rfl, L', hs⟩
  exact ⟨rfl, L', q10.trans hs⟩

theorem flat_range {l : List Opn} {k : Nat} {o : Opn} {w : World} {g : Nat} {cur : Array Value} (hb : Blk w g cur 47) (hc : ∀ (j : Nat) (v : Value), (l.flatMap Opn.cells)[j]? = some v → cur[j]? = some v) (ho : l[k]? = some o) : w.rangeAt g (k * 11) o.cells := fun j v hv => by
  rw [hb.cell]
  exact hc _ _ (flat_cell Opn.cells 11 Opn.cells_length ho (by have := (List.getElem?_eq_some_iff.1 hv).1; rw [Opn.cells_length] at this; exact this) hv)

theorem Played.kept {W0 w : World} {L0 : Labs} {G : Nat} {A : Nat → Addr} {c d : Cfg} {m0 m1 : Option Nat} {D0 D1 : DataW Unit} {t : Nat} (h : Played W0 L0 G A c d m0 m1 D0 D1 t w) : (∃ L, Step someP L0 W0 L w) ∧ G < w.heap.size := by
  obtain ⟨L, cur, pv, tv, mv, np, nt, nm, ps, q1, q2, q3, q4, q5, q6, q7, q8, q9, q10⟩ := h
  exact ⟨⟨L, q10⟩, q1.blk.1.lt⟩

/-- The row of what is played: a row of the call's own. -/
def Somes (w wr : World) (v : Value) (l : List Opn) : Prop := wr.ownsRow w.heap.size 47 11 v l.length (l.flatMap Opn.cells)

theorem somes_get {V w : World} {a : Option Addr} {cp : Nat} {l : List Opn} {k : Nat} {o : Opn} (h : Somes V w (.slice a l.length cp) l) (ho : l[k]? = some o) : ∃ g, a = some ⟨g, 0, none⟩ ∧ V.heap.size ≤ g ∧ g < w.heap.size ∧ w.rangeAt g (k * 11) o.cells := by
  have hk : k < l.length := (List.getElem?_eq_some_iff.1 ho).1
  rcases h.2 with ⟨_, h1⟩ | ⟨g, cap, cur, h1, h2, h3, h4, h5, h6, h7⟩
  · omega
  · simp only [Value.slice.injEq, true_and] at h1
    obtain ⟨rfl, rfl⟩ := h1
    have hb : Blk w g cur 47 := h3
    refine ⟨g, rfl, h2, hb.lt, flat_range hb (fun j v hv => ?_) ho⟩
    rw [← h7] at hv
    have hi : j < l.length * 11 := by
      have := (List.getElem?_eq_some_iff.1 hv).1
      rw [List.length_take] at this; omega
    rw [List.getElem?_take_of_lt hi] at hv
    simpa using hv
theorem somes_keep {V w w' : World} {v : Value} {l : List Opn} (h : Somes V w v l) (hb : ∀ g, v.ownBlock = some g → g < w.heap.size → w'.heap[g]? = w.heap[g]?) : Somes V w' v l := by
  refine ⟨h.1, ?_⟩
  rcases h.2 with h1 | ⟨g, cap, cur, h1, h2, h3, h4⟩
  · exact Or.inl h1
  · exact Or.inr ⟨g, cap, cur, h1, h2, by rw [hb g (by rw [h1]; simp [Value.ownBlock]) (Array.getElem?_eq_some_iff.1 h3).1]; exact h3, h4⟩

set_option maxRecDepth 100000 in
set_option maxHeartbeats 400000 in
theorem taken_any (A : Nat → Addr) (c d : Cfg) (m m' : Option Nat) (la la' : Option Addr) (lk lk' : Nat) (ts ts' : List (List UInt8 × Int)) (sa : Option Addr) (sk : Nat) (os : List Opn) (w : World) (hS : Sents.Holds w 260 gl 11 A) (hok : TenOk ts) (hT : TenAt w la ts) (hok' : TenOk ts') (hT' : TenAt w la' ts')
    (hO : OpsAt w sa os) (hOk : ∀ o ∈ os, o.Ok) (hn : os.length ≤ 400000) :
    Calls Tryz.prog 4 #[c.val m, .slice la ts.length lk, d.val m', .slice la' ts'.length lk', .slice sa os.length sk] w fun e w' => e = .returned (.bool true) ∧ Below w.heap.size w w' := by
  have HS := hide hS
  have HT := hide hT
  have HT' := hide hT'
  have HO := hide hO
  have HOk := hide hOk
  have Hok := hide hok
  have Hok' := hide hok'
  obtain ⟨i1, hi1, hy0, hy1, hy2⟩ := info_parts infoOp3
  generalize hN : os.length = n at *
  have HN := hide hN
  clear hS hT hT' hO hOk hok hok' hN
  go_enter Tryz.func4, Tryz.ntmps4
  go_wp2_with fail
  generalize hV : World.alloc (World.alloc w _) _ = V
  have hKc : Blk V w.heap.size (c.cells m) 25 := by rw [← hV]; exact (Blk.new w _ _).alloc _
  have hKd : Blk V (w.heap.size + 1) (d.cells m') 25 := by rw [← hV]; exact Blk.made (by simp) _ _
  have hBV : Below w.heap.size w V := by rw [← hV]; exact ((Below.refl _ _).alloc (Nat.le_refl _) _).alloc (by simp) _
  have hzV : w.heap.size + 2 ≤ V.heap.size := by have := hKd.lt; omega
  have HKc := hide hKc
  have HKd := hide hKd
  have HBV := hide hBV
  clear hV hKc hKd hBV
  go_loopw [11, 12] (fun v q wr => ∃ (k : Nat) (a : Option Addr) (cp : Nat), k ≤ n ∧ q = .int .i64 k ∧ v = .slice a (plays (os.take k)).length cp ∧ Somes V wr v (plays (os.take k)) ∧ Below V.heap.size V wr) (fun _ q _ => n - (intOf q).toNat)
  case atStart => exact ⟨0, none, 0, Nat.zero_le _, rfl, rfl, ⟨rfl, Or.inl ⟨rfl, rfl⟩⟩, Below.refl _ _⟩
  case round =>
    obtain ⟨k, a, cp, hk, rfl, rfl, hso, hnx⟩ := hrel
    have Hso := hide hso
    have Hnx := hide hnx
    clear hso hnx
    by_cases hlt : k < n
    · have hltI : (k : Int) < (n : Int) := by omega
      obtain ⟨o, ho⟩ : ∃ o, os[k]? = some o := ⟨_, List.getElem?_eq_getElem (by rw [HN.out]; exact hlt)⟩
      have Hpt := hide (plays_take ho)
      have hpl : (plays (os.take k)).length ≤ k := Nat.le_trans (plays_le _) (by simp; omega)
      obtain ⟨b, off, rfl, hbl, hcs⟩ : ∃ b off, sa = some ⟨b, off, none⟩ ∧ b < wr.heap.size ∧ wr.rangeAt b (off + k * 11) o.cells := by
        have hB : Below w.heap.size w wr := HBV.out.trans (Hnx.out.mono HBV.out.size)
        rcases HO.out.below hB with h | ⟨b, off, h1, h2, h3⟩
        · rw [h] at ho; cases ho
        · exact ⟨b, off, h1, h2, h3 k o ho⟩
      have e0 : wr.cell? ⟨b, off + k * 11, none⟩ = some (.int .i64 o.k) := hcs 0 _ rfl
      have Hcs := hide hcs
      clear hcs
      generalize hls : plays (os.take k) = l at *
      have Hls := hide hls
      by_cases h3 : o.k = 3
      · have H3 := hide h3
        go_wp2_with fail
        go_roundw
        case rel => exact ⟨k + 1, a, cp, by omega, by go_num, by rw [Hpt.out]; simp [H3.out], by rw [Hpt.out]; simpa [H3.out] using Hso.out, Hnx.out⟩
        case measure => simp [intOf]; omega
      · by_cases h4 : o.k = 4
        · have H4 := hide h4
          go_wp2_with fail
          go_roundw
          case rel => exact ⟨k + 1, a, cp, by omega, by go_num, by rw [Hpt.out]; simp [H4.out], by rw [Hpt.out]; simpa [H4.out] using Hso.out, Hnx.out⟩
          case measure => simp [intOf]; omega
        · have H34 : Hid (plays (os.take (k + 1)) = l ++ [o]) := by rw [Hid, Hpt.out, if_pos ⟨h3, h4⟩]
          have hb3 : (o.k != 3) = true := by simpa using h3
          have hb4 : (o.k != 4) = true := by simpa using h4
          go_wp2_with (first
            | (refine wpList_load_mid rfl 47 _ rfl b (off + k * 11) rfl [.int .i64 o.k, .int .i64 o.ag, .int .i64 o.b.dst, encStr o.b.ten, encStr o.b.id, encStr o.b.body, .int .i64 o.d, .int .i64 o.ms, .int .i64 o.dr, .bool o.gd, .bool o.ys] _ Hcs.out Tryz.underlying47 rfl infoOp ?_)
            | (at_builtin; refine wpList_append_lies _ rfl _ _ 43 rfl V.heap.size 47 i1 _ 11 104 Tryz.underlying43 hi1 hy0 hy1 hy2 rfl (by decide) (.slice a l.length cp) l.length (l.flatMap Opn.cells) rfl (Hso.out.alloc _) ⟨wr.heap.size, 0, none⟩ 1 1 [.int .i64 o.k, .int .i64 o.ag, .int .i64 o.b.dst, encStr o.b.ten, encStr o.b.id, encStr o.b.body, .int .i64 o.d, .int .i64 o.ms, .int .i64 o.dr, .bool o.gd, .bool o.ys] rfl rfl (World.news_of_block (cs := #[.int .i64 o.k, .int .i64 o.ag, .int .i64 o.b.dst, encStr o.b.ten, encStr o.b.id, encStr o.b.body, .int .i64 o.d, .int .i64 o.ms, .int .i64 o.dr, .bool o.gd, .bool o.ys]) (t := 47) (fr := (0, 0)) (heap_alloc_new wr _)) (by simp [Value.oneCell', encStr]) (by decide) (by unfold maxLen; omega) (by omega) (Nat.le_trans Hnx.out.size (by simp)) (wr.heap.size + 1) (by simp) ?_; intro g2 cap2 w2 hown2 hg2 hat2 hlt2; have HU2 := hide (And.intro hown2 hg2); clear hown2 hg2 hat2)
            | fail)
          go_roundw
          case rel =>
            refine ⟨k + 1, some ⟨g2, 0, none⟩, cap2, by omega, by go_num, by rw [H34.out]; simp, ?_, ?_⟩
            · rw [H34.out]
              have e1 : (l ++ [o]).length = l.length + 1 := by simp
              have e2 : (l ++ [o]).flatMap Opn.cells = l.flatMap Opn.cells ++ o.cells := by simp [List.flatMap_append]
              unfold Somes
              rw [e1, e2]
              exact HU2.out.1
            · refine (Hnx.out.alloc Hnx.out.size _).grown HU2.out.2 (Nat.le_trans Hnx.out.size (by simp)) (fun j hj => ?_)
              exact (Hso.out.lt j hj).1
          case measure => simp [intOf]; omega
    · obtain rfl : k = n := by omega
      rw [List.take_of_length_le (by rw [HN.out]; exact Nat.le_refl _)] at Hso ⊢
      clear hk hlt
      go_wp2_with fail
      refine (example_any _).mono ?_
      rintro e w1 ⟨g1, rfl, hE, hb1⟩
      have HKw1 : Hid (Blk w1 wr.heap.size (wc7 zeroCfg zeroCfg none none) 38) := (Blk.new wr _ _).below hb1 (by simp)
      have Hb1 : Hid (Below wr.heap.size wr w1) := ((Below.refl _ _).alloc (Nat.le_refl _) _).trans (hb1.mono (by simp))
      have HE := hide hE
      have hz1 : wr.heap.size < w1.heap.size := HKw1.out.lt
      have hzr : V.heap.size ≤ wr.heap.size := Hnx.out.size
      clear hb1 hE
      generalize hG : wr.heap.size = G at *
      have HG := hide hG
      clear hG
      go_upto_region 9 with fail
      generalize hV2 : World.alloc w1 _ = V2
      have hKw : Blk V2 G (wc7 zeroCfg zeroCfg none none) 38 := by rw [← hV2]; exact HKw1.out.alloc _
      have hKe : Blk V2 w1.heap.size (exCfg.cells none) 25 := by rw [← hV2]; exact Blk.new w1 _ _
      have hbV2 : Below w1.heap.size w1 V2 := by rw [← hV2]; exact (Below.refl _ _).alloc (Nat.le_refl _) _
      have HbV2 : Hid (Below G wr V2) := Hb1.out.trans (hbV2.mono (by omega))
      have HE2 : Hid (TenAt V2 (some ⟨g1, 0, none⟩) exTs) := tenAt_below HE.out hbV2
      obtain ⟨e0, e1, e2, e3, e4, e5, e6, e7, e8, e9, e10⟩ : V2.cell? ⟨w1.heap.size, 0, none⟩ = some (.int .i64 exCfg.d) ∧ V2.cell? ⟨w1.heap.size, 1, none⟩ = some (.map (none)) ∧ V2.cell? ⟨w1.heap.size, 2, none⟩ = some (.int .i64 exCfg.q) ∧ V2.cell? ⟨w1.heap.size, 3, none⟩ = some (.int .i64 exCfg.at') ∧ V2.cell? ⟨w1.heap.size, 4, none⟩ = some (.int .i64 exCfg.ba) ∧ V2.cell? ⟨w1.heap.size, 5, none⟩ = some (.int .i64 exCfg.ca) ∧ V2.cell? ⟨w1.heap.size, 6, none⟩ = some (.int .i64 exCfg.ti) ∧ V2.cell? ⟨w1.heap.size, 7, none⟩ = some (.int .i64 exCfg.wi) ∧ V2.cell? ⟨w1.heap.size, 8, none⟩ = some (.int .i64 exCfg.le) ∧ V2.cell? ⟨w1.heap.size, 9, none⟩ = some (.float .f64 exCfg.th) ∧ V2.cell? ⟨w1.heap.size, 10, none⟩ = some (.int .i64 exCfg.op) := ⟨hKe.cell 0, hKe.cell 1, hKe.cell 2, hKe.cell 3, hKe.cell 4, hKe.cell 5, hKe.cell 6, hKe.cell 7, hKe.cell 8, hKe.cell 9, hKe.cell 10⟩
      have hV2l : w1.heap.size < V2.heap.size := hKe.lt
      have hV2g : G < V2.heap.size := hKw.lt
      have HKw := hide hKw
      have hfar := fun (W : World) (o o' : Nat) (v : Value) => cell_far W o o' v (show w1.heap.size ≠ G by omega)
      clear hV2 hKw hKe hbV2 HKw1 Hb1 HE
      go_cut [] (fun wx => ∃ b1 n1, Blk wx G (splice (wc7 zeroCfg zeroCfg none none) 0 (exCfg.cells (some b1)).toList) 38 ∧ OM wx b1 n1 (DT exTs) ∧ n1 ≤ big ∧ b1 ≠ G ∧ Below G V2 wx)
      case first =>
        go_region_held3 (fun w' => w'.cell? ⟨w1.heap.size, 0, none⟩ = some (.int .i64 exCfg.d) ∧ w'.cell? ⟨w1.heap.size, 1, none⟩ = some (.map (none)) ∧ w'.cell? ⟨w1.heap.size, 2, none⟩ = some (.int .i64 exCfg.q) ∧ w'.cell? ⟨w1.heap.size, 3, none⟩ = some (.int .i64 exCfg.at') ∧ w'.cell? ⟨w1.heap.size, 4, none⟩ = some (.int .i64 exCfg.ba) ∧ w'.cell? ⟨w1.heap.size, 5, none⟩ = some (.int .i64 exCfg.ca) ∧ w'.cell? ⟨w1.heap.size, 6, none⟩ = some (.int .i64 exCfg.ti) ∧ w'.cell? ⟨w1.heap.size, 7, none⟩ = some (.int .i64 exCfg.wi) ∧ w'.cell? ⟨w1.heap.size, 8, none⟩ = some (.int .i64 exCfg.le) ∧ w'.cell? ⟨w1.heap.size, 9, none⟩ = some (.float .f64 exCfg.th) ∧ w'.cell? ⟨w1.heap.size, 10, none⟩ = some (.int .i64 exCfg.op)) (go_keep)
          (first
            | (go_at_call 15; refine (config_ex g1 _ (tenAt_drew HE2.out)).mono ?_; rintro e w3 ⟨m1, rfl, hM1, hm1, hb3⟩; have hc3 := fun o => hb3.cell (p := ⟨w1.heap.size, o, none⟩) hV2l; have hK3 : Blk w3 G _ 38 := Blk.below (w := V2.drew) HKw.out hb3 HKw.out.lt; obtain ⟨z0, z1, z2, z3, z4, z5, z6, z7, z8, z9, z10⟩ : w3.cell? ⟨G, 0, none⟩ = some (.int .i64 zeroCfg.d) ∧ w3.cell? ⟨G, 1, none⟩ = some (.map (none)) ∧ w3.cell? ⟨G, 2, none⟩ = some (.int .i64 zeroCfg.q) ∧ w3.cell? ⟨G, 3, none⟩ = some (.int .i64 zeroCfg.at') ∧ w3.cell? ⟨G, 4, none⟩ = some (.int .i64 zeroCfg.ba) ∧ w3.cell? ⟨G, 5, none⟩ = some (.int .i64 zeroCfg.ca) ∧ w3.cell? ⟨G, 6, none⟩ = some (.int .i64 zeroCfg.ti) ∧ w3.cell? ⟨G, 7, none⟩ = some (.int .i64 zeroCfg.wi) ∧ w3.cell? ⟨G, 8, none⟩ = some (.int .i64 zeroCfg.le) ∧ w3.cell? ⟨G, 9, none⟩ = some (.float .f64 zeroCfg.th) ∧ w3.cell? ⟨G, 10, none⟩ = some (.int .i64 zeroCfg.op) := ⟨hK3.cell 0, hK3.cell 1, hK3.cell 2, hK3.cell 3, hK3.cell 4, hK3.cell 5, hK3.cell 6, hK3.cell 7, hK3.cell 8, hK3.cell 9, hK3.cell 10⟩; have hfz := fun o => hK3.frozen o; have HK3 := hide hK3; have HM1 := hide hM1; have Hm1 := hide hm1; have Hb3 := hide hb3; clear hK3 hM1 hm1 hb3))
        all_goals
          go_wp2_with fail
          go_meet
          generalize hX : (World.setCell (World.setCell (World.setCell (World.setCell (World.setCell (World.setCell (World.setCell (World.setCell (World.setCell (World.setCell (World.setCell w3 _ _) _ _) _ _) _ _) _ _) _ _) _ _) _ _) _ _) _ _) _ _) = X
          have hX' : w3.setCells G 0 (exCfg.cells m1).toList = X := hX
          clear hX
          subst hX'
          obtain ⟨b1, n1, rfl, h2, h3⟩ : ∃ b1 n1, m1 = some b1 ∧ OM w3 b1 n1 (DT exTs) ∧ n1 ≤ big := by
            rcases HM1.out with ⟨_, h⟩ | ⟨b, n, h1, h2, h3⟩
            · exact absurd ex_good.2.1.1.1 (by rw [h]; simp [Maps.size])
            · exact ⟨b, n, h1, h2, h3⟩
          have hb1 : V2.heap.size ≤ b1 := Hm1.out b1 rfl
          refine ⟨b1, n1, HK3.out.setCells _ 0, ?_, h3, by omega, ?_⟩
          · obtain ⟨es, clock, q1, q2⟩ := h2
            exact ⟨es, clock, by rw [heap_setCells _ 0 (by omega)]; exact q1, q2⟩
          · exact below_setCells (Nat.le_refl _) _ 0 ((Below.refl G V2).drew.trans (Hb3.out.mono (show G ≤ V2.heap.size by omega)))
      case rest =>
      obtain ⟨b1, n1, hKw3, hO1, hn1, hbG, hB3⟩ := hcut
      generalize hwc : wc = V3 at *
      clear hwc e0 e1 e2 e3 e4 e5 e6 e7 e8 e9 e10 hfar
      have hB : Below w.heap.size w V3 := ((HBV.out.trans (Hnx.out.mono (by omega))).trans (HbV2.out.mono (by omega))).trans (hB3.mono (by omega))
      obtain ⟨L0, hL0⟩ : ∃ L0 : Labs, L0 = fun k => if k = G then bl 2 0 else none := ⟨_, rfl⟩
      have hLG : L0 G = bl 2 0 := by rw [hL0]; simp
      have hLo : ∀ k, k ≠ G → L0 k = none := fun k hk => by rw [hL0]; exact if_neg hk
      have hlen : (exCfg.cells (some b1)).toList.length = 11 := rfl
      have hW : WAt V3 L0 G A (splice (wc7 zeroCfg zeroCfg none none) 0 (exCfg.cells (some b1)).toList) (.slice none 0 0) (.slice none 0 0) (.slice none 0 0) 0 0 0 [] := by
        refine ⟨⟨hKw3, hLG⟩, (splice_out _ _ _ 22 (by rw [hlen]; omega)).trans rfl, (splice_out _ _ _ 23 (by rw [hlen]; omega)).trans rfl, (splice_out _ _ _ 24 (by rw [hlen]; omega)).trans rfl, (splice_out _ _ _ 25 (by rw [hlen]; omega)).trans rfl, RowAt.nil _ _ _ _ _, fun i v hv => by simp at hv, ⟨[], RowAt.nil _ _ _ _ _, fun i v hv => by simp at hv⟩, ⟨[], RowAt.nil _ _ _ _ _, fun i v hv => by simp at hv⟩, ⟨HS.out.below hB, fun i hi => ?_, fun i hi => ?_⟩⟩
        · have := World.block_lt_of_cell? w _ (HS.out.cell i hi)
          exact hLo _ (by have h2 : gl.getD i 0 < w.heap.size := this; omega)
        · obtain ⟨cc, tt, hcc⟩ := HS.out.block i hi
          have := (Array.getElem?_eq_some_iff.1 hcc).1
          exact hLo _ (by omega)
      have hc0 : CfgAt V3 L0 (splice (wc7 zeroCfg zeroCfg none none) 0 (exCfg.cells (some b1)).toList) 0 exCfg (some b1) (DT exTs) := ⟨fun j v hv => splice_in _ _ _ _ _ (by show 0 + 11 ≤ 27; omega) (by simpa using hv), Or.inr ⟨b1, n1, rfl, hO1, hn1⟩, fun b hb => by cases hb; exact hLo _ hbG⟩
      have hc1 : CfgAt V3 L0 (splice (wc7 zeroCfg zeroCfg none none) 0 (exCfg.cells (some b1)).toList) 1 zeroCfg none (.map []) := ⟨fun j v hv => (splice_out _ _ _ _ (by rw [hlen]; omega)).trans (wc7_one hv), Or.inl ⟨rfl, rfl⟩, fun b hb => by cases hb⟩
      have h26 : (splice (wc7 zeroCfg zeroCfg none none) 0 (exCfg.cells (some b1)).toList)[26]? = some (.int .i64 7) := (splice_out _ _ _ 26 (by rw [hlen]; omega)).trans rfl
      have HC0 := hide hc0
      have HC1 := hide hc1
      have H26 := hide h26
      have HLo := hide hLo
      have HB := hide hB
      have HB3 := hide hB3
      have HOp := hide (opened_any L0 G A 0 0 (by omega) pick_0 _ _ _ _ 0 0 0 [] exCfg (some b1) (DT exTs) V3 hW hc0 (by omega))
      have hG3 : G < V3.heap.size := hKw3.lt
      clear hKw3 hO1 hn1 hbG hB3 hB hL0 hLG hLo hlen hW hc0 hc1 h26
      go_wp2_with fail
      refine HOp.out.mono ?_
      rintro e V4 ⟨rfl, L4, cur4, pv4, np4, ps4, hW4, _, _, hnp4, hcur4, hS4⟩
      obtain rfl : np4 = 0 + 1 := hnp4 ex_good
      have HS4 : Hid (Step someP L0 V3 (clip L4 V4.heap.size) V4) := (hS4.mono (fun l h => by rcases h with rfl | rfl <;> simp [someP, bl])).trans (Step.clipped _ _)
      have HW4 := hide (hW4.step (Step.clipped L4 V4))
      have HC04 := hide ((HC0.out.keep hS4 (by simp [opP]) (fun i hi => hcur4 i (by omega)) (by omega)).keep (p := fun _ => False) (Step.clipped L4 V4) (fun h => h) (fun _ _ => rfl) (by omega))
      have HC14 := hide ((HC1.out.keep hS4 (by simp [opP]) (fun i hi => hcur4 i (by omega)) (by omega)).keep (p := fun _ => False) (Step.clipped L4 V4) (fun h => h) (fun _ _ => rfl) (by omega))
      have H264 : Hid (cur4[26]? = some (.int .i64 7)) := (hcur4 26 (by omega)).trans H26.out
      have HLn4 : Hid (∀ k, V4.heap.size ≤ k → clip L4 V4.heap.size k = none) := fun k hk => clip_none L4 hk
      generalize clip L4 V4.heap.size = L5 at *
      have HB4 : Hid (Below G V3 V4) := HS4.out.below (by omega) (fun k hk => by rw [HLo.out k (by omega)]; simp [someP])
      have HBw4 : Hid (Below w.heap.size w V4) := HB.out.trans (HB4.out.mono (by omega))
      have HKc4 : Hid (Blk V4 w.heap.size (c.cells m) 25) := (((HKc.out.below Hnx.out (by omega)).below HbV2.out (by omega)).below HB3.out (by omega)).below HB4.out (by omega)
      have HKd4 : Hid (Blk V4 (w.heap.size + 1) (d.cells m') 25) := (((HKd.out.below Hnx.out (by omega)).below HbV2.out (by omega)).below HB3.out (by omega)).below HB4.out (by omega)
      have hG4 : G < V4.heap.size := HW4.out.blk.1.lt
      obtain ⟨e0, e1, e2, e3, e4, e5, e6, e7, e8, e9, e10⟩ : V4.cell? ⟨w.heap.size, 0, none⟩ = some (.int .i64 c.d) ∧ V4.cell? ⟨w.heap.size, 1, none⟩ = some (.map (m)) ∧ V4.cell? ⟨w.heap.size, 2, none⟩ = some (.int .i64 c.q) ∧ V4.cell? ⟨w.heap.size, 3, none⟩ = some (.int .i64 c.at') ∧ V4.cell? ⟨w.heap.size, 4, none⟩ = some (.int .i64 c.ba) ∧ V4.cell? ⟨w.heap.size, 5, none⟩ = some (.int .i64 c.ca) ∧ V4.cell? ⟨w.heap.size, 6, none⟩ = some (.int .i64 c.ti) ∧ V4.cell? ⟨w.heap.size, 7, none⟩ = some (.int .i64 c.wi) ∧ V4.cell? ⟨w.heap.size, 8, none⟩ = some (.int .i64 c.le) ∧ V4.cell? ⟨w.heap.size, 9, none⟩ = some (.float .f64 c.th) ∧ V4.cell? ⟨w.heap.size, 10, none⟩ = some (.int .i64 c.op) := ⟨HKc4.out.cell 0, HKc4.out.cell 1, HKc4.out.cell 2, HKc4.out.cell 3, HKc4.out.cell 4, HKc4.out.cell 5, HKc4.out.cell 6, HKc4.out.cell 7, HKc4.out.cell 8, HKc4.out.cell 9, HKc4.out.cell 10⟩
      have hwl4 : w.heap.size < V4.heap.size := by omega
      have HT4 : Hid (TenAt V4 la ts) := tenAt_below HT.out HBw4.out
      have hfar := fun (W : World) (o o' : Nat) (v : Value) => cell_far W o o' v (show w.heap.size ≠ G by omega)
      clear hW4 hcur4 hS4 hnp4 HOp HC0 HC1 H26 HKw
      go_upto_region 13 with fail
      go_cut [] (fun wx => ∃ m0 cur5, WAt wx L5 G A cur5 pv4 (.slice none 0 0) (.slice none 0 0) (0 + 1) 0 0 ps4 ∧ CfgAt wx L5 cur5 0 c m0 (DT ts) ∧ CfgAt wx L5 cur5 1 zeroCfg none (.map []) ∧ cur5[26]? = some (.int .i64 7) ∧ Step someP L5 V4 L5 wx)
      case first =>
        go_region_held3 (fun w' => w'.cell? ⟨w.heap.size, 0, none⟩ = some (.int .i64 c.d) ∧ w'.cell? ⟨w.heap.size, 1, none⟩ = some (.map (m)) ∧ w'.cell? ⟨w.heap.size, 2, none⟩ = some (.int .i64 c.q) ∧ w'.cell? ⟨w.heap.size, 3, none⟩ = some (.int .i64 c.at') ∧ w'.cell? ⟨w.heap.size, 4, none⟩ = some (.int .i64 c.ba) ∧ w'.cell? ⟨w.heap.size, 5, none⟩ = some (.int .i64 c.ca) ∧ w'.cell? ⟨w.heap.size, 6, none⟩ = some (.int .i64 c.ti) ∧ w'.cell? ⟨w.heap.size, 7, none⟩ = some (.int .i64 c.wi) ∧ w'.cell? ⟨w.heap.size, 8, none⟩ = some (.int .i64 c.le) ∧ w'.cell? ⟨w.heap.size, 9, none⟩ = some (.float .f64 c.th) ∧ w'.cell? ⟨w.heap.size, 10, none⟩ = some (.int .i64 c.op)) (go_keep)
          (first
            | (go_at_call 15; refine (config_any c m la lk ts _ Hok.out (tenAt_drew HT4.out)).mono ?_; rintro e w3 ⟨m0, rfl, hM0, hm0, hb3⟩; have hc3 := fun o => hb3.cell (p := ⟨w.heap.size, o, none⟩) hwl4; have hb3' : Below V4.heap.size V4 w3 := (Below.refl V4.heap.size V4).drew.trans hb3; have hW3 := HW4.out.below hb3'; have hK3 := hW3.blk.1; obtain ⟨z0, z1, z2, z3, z4, z5, z6, z7, z8, z9, z10⟩ : w3.cell? ⟨G, 0, none⟩ = some (.int .i64 exCfg.d) ∧ w3.cell? ⟨G, 1, none⟩ = some (.map (some b1)) ∧ w3.cell? ⟨G, 2, none⟩ = some (.int .i64 exCfg.q) ∧ w3.cell? ⟨G, 3, none⟩ = some (.int .i64 exCfg.at') ∧ w3.cell? ⟨G, 4, none⟩ = some (.int .i64 exCfg.ba) ∧ w3.cell? ⟨G, 5, none⟩ = some (.int .i64 exCfg.ca) ∧ w3.cell? ⟨G, 6, none⟩ = some (.int .i64 exCfg.ti) ∧ w3.cell? ⟨G, 7, none⟩ = some (.int .i64 exCfg.wi) ∧ w3.cell? ⟨G, 8, none⟩ = some (.int .i64 exCfg.le) ∧ w3.cell? ⟨G, 9, none⟩ = some (.float .f64 exCfg.th) ∧ w3.cell? ⟨G, 10, none⟩ = some (.int .i64 exCfg.op) := ⟨(hK3.cell 0).trans (HC04.out.cell 0 _ rfl), (hK3.cell 1).trans (HC04.out.cell 1 _ rfl), (hK3.cell 2).trans (HC04.out.cell 2 _ rfl), (hK3.cell 3).trans (HC04.out.cell 3 _ rfl), (hK3.cell 4).trans (HC04.out.cell 4 _ rfl), (hK3.cell 5).trans (HC04.out.cell 5 _ rfl), (hK3.cell 6).trans (HC04.out.cell 6 _ rfl), (hK3.cell 7).trans (HC04.out.cell 7 _ rfl), (hK3.cell 8).trans (HC04.out.cell 8 _ rfl), (hK3.cell 9).trans (HC04.out.cell 9 _ rfl), (hK3.cell 10).trans (HC04.out.cell 10 _ rfl)⟩; have hfz := fun o => hK3.frozen o; have HW3 := hide hW3; have HM0 := hide hM0; have Hm0 := hide hm0; have Hb3 := hide hb3'; clear hK3 hM0 hm0 hb3 hb3' hW3))
        all_goals
          go_wp2_with fail
          go_meet
          generalize hX : (World.setCell (World.setCell (World.setCell (World.setCell (World.setCell (World.setCell (World.setCell (World.setCell (World.setCell (World.setCell (World.setCell w3 _ _) _ _) _ _) _ _) _ _) _ _) _ _) _ _) _ _) _ _) _ _) = X
          have hX' : w3.setCells G (0 * 11) (c.cells m0).toList = X := hX
          clear hX
          subst hX'
          obtain ⟨q1, q2, q3, q4⟩ := HW3.out.stored 0 (by omega) c HM0.out (fun b hb => HLn4.out b (Hm0.out b hb))
          have hs : Step (fun l => l = bl 2 0) L5 V4 L5 (w3.setCells G (0 * 11) (c.cells m0).toList) := (Step.of_below Hb3.out).trans q4
          exact ⟨m0, _, q1, q2, HC14.out.keepN hs (by simp [bl]) (fun i h1 h2 => q3 i (by omega)), (q3 26 (by omega)).trans H264.out, hs.mono (fun l h => by rw [h]; simp [someP, bl])⟩
      case rest =>
      obtain ⟨m0, cur5, hW5, hc05, hc15, h265, hS5⟩ := hcut
      generalize hwc : wc = V5 at *
      clear hwc e0 e1 e2 e3 e4 e5 e6 e7 e8 e9 e10 hfar
      have HW5 := hide (hW5.step (Step.clipped L5 V5))
      have HC05 := hide (hc05.keepN (p := fun _ => False) (Step.clipped L5 V5) (fun h => h) (fun _ _ _ => rfl))
      have HC15 := hide (hc15.keepN (p := fun _ => False) (Step.clipped L5 V5) (fun h => h) (fun _ _ _ => rfl))
      have H265 := hide h265
      have HS5 : Hid (Step someP L0 V3 (clip L5 V5.heap.size) V5) := (HS4.out.trans hS5).trans (Step.clipped _ _)
      have HLn5 : Hid (∀ k, V5.heap.size ≤ k → clip L5 V5.heap.size k = none) := fun k hk => clip_none L5 hk
      generalize clip L5 V5.heap.size = L6 at *
      have HB5 : Hid (Below G V3 V5) := HS5.out.below (by omega) (fun k hk => by rw [HLo.out k (by omega)]; simp [someP])
      have HBw5 : Hid (Below w.heap.size w V5) := HB.out.trans (HB5.out.mono (by omega))
      have HKd5 : Hid (Blk V5 (w.heap.size + 1) (d.cells m') 25) := (((HKd.out.below Hnx.out (by omega)).below HbV2.out (by omega)).below HB3.out (by omega)).below HB5.out (by omega)
      have hG5 : G < V5.heap.size := HW5.out.blk.1.lt
      obtain ⟨e0, e1, e2, e3, e4, e5, e6, e7, e8, e9, e10⟩ : V5.cell? ⟨w.heap.size + 1, 0, none⟩ = some (.int .i64 d.d) ∧ V5.cell? ⟨w.heap.size + 1, 1, none⟩ = some (.map (m')) ∧ V5.cell? ⟨w.heap.size + 1, 2, none⟩ = some (.int .i64 d.q) ∧ V5.cell? ⟨w.heap.size + 1, 3, none⟩ = some (.int .i64 d.at') ∧ V5.cell? ⟨w.heap.size + 1, 4, none⟩ = some (.int .i64 d.ba) ∧ V5.cell? ⟨w.heap.size + 1, 5, none⟩ = some (.int .i64 d.ca) ∧ V5.cell? ⟨w.heap.size + 1, 6, none⟩ = some (.int .i64 d.ti) ∧ V5.cell? ⟨w.heap.size + 1, 7, none⟩ = some (.int .i64 d.wi) ∧ V5.cell? ⟨w.heap.size + 1, 8, none⟩ = some (.int .i64 d.le) ∧ V5.cell? ⟨w.heap.size + 1, 9, none⟩ = some (.float .f64 d.th) ∧ V5.cell? ⟨w.heap.size + 1, 10, none⟩ = some (.int .i64 d.op) := ⟨HKd5.out.cell 0, HKd5.out.cell 1, HKd5.out.cell 2, HKd5.out.cell 3, HKd5.out.cell 4, HKd5.out.cell 5, HKd5.out.cell 6, HKd5.out.cell 7, HKd5.out.cell 8, HKd5.out.cell 9, HKd5.out.cell 10⟩
      have hwl5 : w.heap.size + 1 < V5.heap.size := by omega
      have HT5 : Hid (TenAt V5 la' ts') := tenAt_below HT'.out HBw5.out
      have hfar := fun (W : World) (o o' : Nat) (v : Value) => cell_far W o o' v (show w.heap.size + 1 ≠ G by omega)
      clear hW5 hc05 hc15 h265 hS5 HW4 HC04 HC14 H264 HS4 HLn4 HB4 HBw4 HKc4 HKd4 HT4
      go_upto_region 14 with fail
      go_cut [] (fun wx => ∃ m1 cur6, WAt wx L6 G A cur6 pv4 (.slice none 0 0) (.slice none 0 0) (0 + 1) 0 0 ps4 ∧ CfgAt wx L6 cur6 0 c m0 (DT ts) ∧ CfgAt wx L6 cur6 1 d m1 (DT ts') ∧ cur6[26]? = some (.int .i64 7) ∧ Step someP L6 V5 L6 wx)
      case first =>
        go_region_held3 (fun w' => w'.cell? ⟨w.heap.size + 1, 0, none⟩ = some (.int .i64 d.d) ∧ w'.cell? ⟨w.heap.size + 1, 1, none⟩ = some (.map (m')) ∧ w'.cell? ⟨w.heap.size + 1, 2, none⟩ = some (.int .i64 d.q) ∧ w'.cell? ⟨w.heap.size + 1, 3, none⟩ = some (.int .i64 d.at') ∧ w'.cell? ⟨w.heap.size + 1, 4, none⟩ = some (.int .i64 d.ba) ∧ w'.cell? ⟨w.heap.size + 1, 5, none⟩ = some (.int .i64 d.ca) ∧ w'.cell? ⟨w.heap.size + 1, 6, none⟩ = some (.int .i64 d.ti) ∧ w'.cell? ⟨w.heap.size + 1, 7, none⟩ = some (.int .i64 d.wi) ∧ w'.cell? ⟨w.heap.size + 1, 8, none⟩ = some (.int .i64 d.le) ∧ w'.cell? ⟨w.heap.size + 1, 9, none⟩ = some (.float .f64 d.th) ∧ w'.cell? ⟨w.heap.size + 1, 10, none⟩ = some (.int .i64 d.op)) (go_keep)
          (first
            | (go_at_call 15; refine (config_any d m' la' lk' ts' _ Hok'.out (tenAt_drew HT5.out)).mono ?_; rintro e w3 ⟨m1, rfl, hM0, hm0, hb3⟩; have hc3 := fun o => hb3.cell (p := ⟨w.heap.size + 1, o, none⟩) hwl5; have hb3' : Below V5.heap.size V5 w3 := (Below.refl V5.heap.size V5).drew.trans hb3; have hW3 := HW5.out.below hb3'; have hK3 := hW3.blk.1; obtain ⟨z0, z1, z2, z3, z4, z5, z6, z7, z8, z9, z10⟩ : w3.cell? ⟨G, 11, none⟩ = some (.int .i64 zeroCfg.d) ∧ w3.cell? ⟨G, 12, none⟩ = some (.map none) ∧ w3.cell? ⟨G, 13, none⟩ = some (.int .i64 zeroCfg.q) ∧ w3.cell? ⟨G, 14, none⟩ = some (.int .i64 zeroCfg.at') ∧ w3.cell? ⟨G, 15, none⟩ = some (.int .i64 zeroCfg.ba) ∧ w3.cell? ⟨G, 16, none⟩ = some (.int .i64 zeroCfg.ca) ∧ w3.cell? ⟨G, 17, none⟩ = some (.int .i64 zeroCfg.ti) ∧ w3.cell? ⟨G, 18, none⟩ = some (.int .i64 zeroCfg.wi) ∧ w3.cell? ⟨G, 19, none⟩ = some (.int .i64 zeroCfg.le) ∧ w3.cell? ⟨G, 20, none⟩ = some (.float .f64 zeroCfg.th) ∧ w3.cell? ⟨G, 21, none⟩ = some (.int .i64 zeroCfg.op) := ⟨(hK3.cell 11).trans (HC15.out.cell 0 _ rfl), (hK3.cell 12).trans (HC15.out.cell 1 _ rfl), (hK3.cell 13).trans (HC15.out.cell 2 _ rfl), (hK3.cell 14).trans (HC15.out.cell 3 _ rfl), (hK3.cell 15).trans (HC15.out.cell 4 _ rfl), (hK3.cell 16).trans (HC15.out.cell 5 _ rfl), (hK3.cell 17).trans (HC15.out.cell 6 _ rfl), (hK3.cell 18).trans (HC15.out.cell 7 _ rfl), (hK3.cell 19).trans (HC15.out.cell 8 _ rfl), (hK3.cell 20).trans (HC15.out.cell 9 _ rfl), (hK3.cell 21).trans (HC15.out.cell 10 _ rfl)⟩; have hfz := fun o => hK3.frozen o; have HW3 := hide hW3; have HM0 := hide hM0; have Hm0 := hide hm0; have Hb3 := hide hb3'; clear hK3 hM0 hm0 hb3 hb3' hW3))
        all_goals
          go_wp2_with fail
          go_meet
          generalize hX : (World.setCell (World.setCell (World.setCell (World.setCell (World.setCell (World.setCell (World.setCell (World.setCell (World.setCell (World.setCell (World.setCell w3 _ _) _ _) _ _) _ _) _ _) _ _) _ _) _ _) _ _) _ _) _ _) = X
          have hX' : w3.setCells G (1 * 11) (d.cells m1).toList = X := hX
          clear hX
          subst hX'
          obtain ⟨q1, q2, q3, q4⟩ := HW3.out.stored 1 (by omega) d HM0.out (fun b hb => HLn5.out b (Hm0.out b hb))
          have hs : Step (fun l => l = bl 2 0) L6 V5 L6 (w3.setCells G (1 * 11) (d.cells m1).toList) := (Step.of_below Hb3.out).trans q4
          exact ⟨m1, _, q1, HC05.out.keepN hs (by simp [bl]) (fun i h1 h2 => q3 i (by omega)), q2, (q3 26 (by omega)).trans H265.out, hs.mono (fun l h => by rw [h]; simp [someP, bl])⟩
      case rest =>
      obtain ⟨m1, cur6, hW6, hc06, hc16, h266, hS6⟩ := hcut
      generalize hwc : wc = V6 at *
      clear hwc e0 e1 e2 e3 e4 e5 e6 e7 e8 e9 e10 hfar
      have HW6 := hide hW6
      have HC06 := hide hc06
      have HC16 := hide hc16
      have H266 := hide h266
      have HS6 : Hid (Step someP L0 V3 L6 V6) := HS5.out.trans hS6
      clear hW6 hc06 hc16 h266 hS6 HW5 HC05 HC15 H265 HS5 HLn5 HB5 HBw5 HKd5 HT5
      go_wp2_with fail
      generalize hW0 : World.alloc V6 _ = W0
      have hKf : Blk W0 V6.heap.size (firstOps.flatMap Opn.cells).toArray 47 := by rw [← hW0]; exact Blk.new V6 _ _
      have hB60 : Below V6.heap.size V6 W0 := by rw [← hW0]; exact (Below.refl _ _).alloc (Nat.le_refl _) _
      have hlf : ∀ k, k < V6.heap.size → clip L6 V6.heap.size k = L6 k := fun k hk => if_pos hk
      have hst0 : Step (fun _ => False) L6 V6 (clip L6 V6.heap.size) W0 := Step.of_below' hB60 hlf
      have hPl : Played W0 (clip L6 V6.heap.size) G A c d m0 m1 (DT ts) (DT ts') 0 W0 := ⟨clip L6 V6.heap.size, cur6, pv4, _, _, 0 + 1, 0, 0, ps4, HW6.out.step hst0, HC06.out.keepN hst0 (fun h => h) (fun _ _ _ => rfl), HC16.out.keepN hst0 (fun h => h) (fun _ _ _ => rfl), H266.out, by omega, by omega, by omega, by omega, by omega, Step.refl _ _ _⟩
      have hLF : clip L6 V6.heap.size V6.heap.size = none := clip_none L6 (Nat.le_refl _)
      have hLO : ∀ k, k < G → clip L6 V6.heap.size k = none := fun k hk => by
        rw [hlf k (by have := HS6.out.size; omega), HS6.out.lab k (by omega)]
        exact HLo.out k (by omega)
      generalize hF : V6.heap.size = F at *
      generalize clip L6 F = L7 at *
      have h36 : Below G V3 V6 := HS6.out.below (by omega) (fun k hk => by rw [HLo.out k (by omega)]; simp [someP])
      have hGF : G < F := by have := HS6.out.size; omega
      have hG0 : Below G wr W0 := ((HbV2.out.trans HB3.out).trans h36).trans (hB60.mono (by omega))
      have HgG : Hid (∀ g, (Value.slice a (plays os).length cp).ownBlock = some g → g < G) := fun g hg => by
        have := (Hso.out.lt g hg).2
        rw [HG.out] at this
        exact this
      have Hso7 : Hid (Somes V W0 (.slice a (plays os).length cp) (plays os)) := somes_keep Hso.out (fun g _ h2 => hG0.block g (by rw [HG.out] at h2; exact h2))
      have HKf := hide hKf
      have HPl := hide hPl
      have HLF := hide hLF
      have HLO := hide hLO
      have HB0 : Hid (Below w.heap.size w W0) := (HB.out.trans (h36.mono (by omega))).trans (hB60.mono (by omega))
      have hll : (plays os).length ≤ 400000 := Nat.le_trans (plays_le os) (by rw [HN.out]; exact hn)
      have HlOk : Hid (∀ o ∈ plays os, o.Ok ∧ o.k ≠ 3 ∧ o.k ≠ 4) := fun o ho => by
        have := List.mem_filter.1 ho
        exact ⟨HOk.out o this.1, by simpa using this.2⟩
      generalize hl : plays os = l at *
      clear h36 hGF hG0 hW0 hKf hB60 hlf hst0 hPl hLF hLO hF hl HW6 HC06 HC16 H266
      go_loopw [16, 18] (fun _ q wr => ∃ t : Nat, t ≤ 2 + l.length ∧ q = .int .i64 t ∧ Played W0 L7 G A c d m0 m1 (DT ts) (DT ts') t wr) (fun _ q _ => 2 + l.length - (intOf q).toNat)
      case atStart => exact ⟨0, Nat.zero_le _, rfl, HPl.out⟩
      case round =>
        obtain ⟨t, ht, rfl, hP⟩ := hrel
        have HP := hide hP
        clear hP
        have hlI : (l.length : Int) ≤ 400000 := by omega
        by_cases hlt : t < 2 + l.length
        · have hltI : (t : Int) < 2 + (l.length : Int) := by omega
          by_cases h2 : t < 2
          · have h2I : (t : Int) < 2 := by omega
            obtain ⟨o, ho⟩ : ∃ o, firstOps[t]? = some o := ⟨_, List.getElem?_eq_getElem h2⟩
            obtain ⟨⟨L8, hs8⟩, hG8⟩ := HP.out.kept
            have hR : ∀ o', (wr.alloc o').rangeAt F (t * 11) o.cells := fun o' => by
              have hb : Blk wr F (firstOps.flatMap Opn.cells).toArray 47 := by
                unfold Blk
                rw [hs8.block F HKf.out.lt (by rw [HLF.out]; simp [someP])]
                exact HKf.out
              exact flat_range (hb.alloc o') (fun j v hv => by simpa using hv) ho
            have HR := hide hR
            have hFl : F < wr.heap.size := Nat.lt_of_lt_of_le HKf.out.lt hs8.size
            have HSt : Hid (∀ X, Below wr.heap.size wr X → Calls Tryz.prog 18 #[.pointer (some ⟨G, 0, none⟩), o.val] X fun e w' => e = .returned (.bool true) ∧ Played W0 L7 G A c d m0 m1 (DT ts) (DT ts') (t + 1) w') := fun X hX => HP.out.step (by omega) o (firstOk o (List.mem_of_getElem? ho)) X hX
            unfold Opn.val Opn.cells at HSt
            clear hR hs8
            go_wp2_with (first
              | (refine wpList_load_mid rfl 47 _ rfl F (t * 11) rfl [.int .i64 o.k, .int .i64 o.ag, .int .i64 o.b.dst, encStr o.b.ten, encStr o.b.id, encStr o.b.body, .int .i64 o.d, .int .i64 o.ms, .int .i64 o.dr, .bool o.gd, .bool o.ys] _ (HR.out _) Tryz.underlying47 rfl infoOp ?_)
              | fail)
            refine (HSt.out _ ((Below.refl _ _).alloc (Nat.le_refl _) _)).mono ?_
            rintro e w4 ⟨rfl, hP4⟩
            have HWh := hide (hP4.whole (by omega))
            have hG4 := hP4.kept.2
            clear hP4
            go_wp2_with fail
            refine HWh.out.mono ?_
            rintro e w5 ⟨rfl, hP5⟩
            have HP5 := hide hP5
            clear hP5
            go_wp2_with fail
            go_roundw
            case rel => exact ⟨t + 1, by omega, by go_num, HP5.out⟩
            case measure => simp [intOf]; omega
          · obtain ⟨u, rfl⟩ : ∃ u, t = u + 2 := ⟨t - 2, by omega⟩
            have h2I : ¬ ((u + 2 : Nat) : Int) < 2 := by omega
            obtain ⟨o, ho⟩ : ∃ o, l[u]? = some o := ⟨_, List.getElem?_eq_getElem (by omega)⟩
            obtain ⟨⟨L8, hs8⟩, hG8⟩ := HP.out.kept
            have hso8 : Somes V wr (.slice a l.length cp) l := somes_keep Hso7.out (fun g h1 h2 => hs8.block g h2 (by rw [HLO.out g (HgG.out g h1)]; simp [someP]))
            obtain ⟨gs, rfl, hg1, hg2, hR⟩ := somes_get hso8 ho
            have HR := hide (fun o' => (show (wr.alloc o').rangeAt gs (u * 11) o.cells from fun j v hv => cell?_alloc_old o' (hR j v hv)))
            have HSt : Hid (∀ X, Below wr.heap.size wr X → Calls Tryz.prog 18 #[.pointer (some ⟨G, 0, none⟩), o.val] X fun e w' => e = .returned (.bool true) ∧ Played W0 L7 G A c d m0 m1 (DT ts) (DT ts') (u + 2 + 1) w') := fun X hX => HP.out.step (by omega) o (HlOk.out o (List.mem_of_getElem? ho)) X hX
            unfold Opn.val Opn.cells at HSt
            clear hR hs8 hso8
            go_wp2_with (first
              | (refine wpList_load_mid rfl 47 _ rfl gs (u * 11) rfl [.int .i64 o.k, .int .i64 o.ag, .int .i64 o.b.dst, encStr o.b.ten, encStr o.b.id, encStr o.b.body, .int .i64 o.d, .int .i64 o.ms, .int .i64 o.dr, .bool o.gd, .bool o.ys] _ (HR.out _) Tryz.underlying47 rfl infoOp ?_)
              | fail)
            refine (HSt.out _ ((Below.refl _ _).alloc (Nat.le_refl _) _)).mono ?_
            rintro e w4 ⟨rfl, hP4⟩
            have HWh := hide (hP4.whole (by omega))
            have hG4 := hP4.kept.2
            clear hP4
            go_wp2_with fail
            refine HWh.out.mono ?_
            rintro e w5 ⟨rfl, hP5⟩
            have HP5 := hide hP5
            clear hP5
            go_wp2_with fail
            go_roundw
            case rel => exact ⟨u + 2 + 1, by omega, by go_num, HP5.out⟩
            case measure => simp [intOf]; omega
        · have HAs := hide (HP.out.asked (by omega))
          have hltI : ¬ (t : Int) < 2 + (l.length : Int) := by omega
          go_wp2_with fail
          refine HAs.out.mono ?_
          rintro e w4 ⟨rfl, L9, hs9⟩
          have HF : Hid (Below w.heap.size w w4) := HB0.out.trans (hs9.below HB0.out.size (fun k hk => by rw [HLO.out k (by omega)]; simp [someP]))
          clear hs9
          go_wp2_with fail
          go_ret
          exact ⟨rfl, HF.out⟩
end Go.Proofs.YtojpjaifhjigfaaGreatDoor

/- A script that comes in as an argument. -/
namespace Go.Proofs.YtojpjaifhjigfaaGreatDoor
open Go.ChangeShapes Go.WideShapes Go.ChangeAt Go.WideMaps Go.WideElems Go.RowKit
set_option maxRecDepth 100000

theorem opCells : Tryz.prog.cellsOf 47 = 11 := by kernel_rfl
theorem batCells : Tryz.prog.cellsOf 45 = 4 := by kernel_rfl
theorem boolCells : Tryz.prog.cellsOf 4 = 1 := by kernel_rfl

theorem trod_struct8 {H : Type} {enc : TypeId × Value → H} {P : Program} {w : World} {base : Nat} {spare : Nat → Bool} {held : Bool} {t : TypeId} {f0 f1 f2 f3 f4 f5 f6 f7 : Field} {fuel : Nat} {cs : List Value} {x : DataW H × List MemPlace} (ht : P.underlying t = some (.struct #[f0, f1, f2, f3, f4, f5, f6, f7])) (h : DataW.trod enc P w base spare held fuel t cs = some x) :
    ∃ y0 y1 y2 y3 y4 y5 y6 y7 n, x.1 = .agg [y0.1, y1.1, y2.1, y3.1, y4.1, y5.1, y6.1, y7.1] ∧ cs.length = P.cellsOf t ∧ DataW.trod enc P w base spare held n f0.type ((cs.drop f0.offset).take (P.cellsOf f0.type)) = some y0 ∧ DataW.trod enc P w base spare held n f1.type ((cs.drop f1.offset).take (P.cellsOf f1.type)) = some y1 ∧
      DataW.trod enc P w base spare held n f2.type ((cs.drop f2.offset).take (P.cellsOf f2.type)) = some y2 ∧ DataW.trod enc P w base spare held n f3.type ((cs.drop f3.offset).take (P.cellsOf f3.type)) = some y3 ∧ DataW.trod enc P w base spare held n f4.type ((cs.drop f4.offset).take (P.cellsOf f4.type)) = some y4 ∧
      DataW.trod enc P w base spare held n f5.type ((cs.drop f5.offset).take (P.cellsOf f5.type)) = some y5 ∧ DataW.trod enc P w base spare held n f6.type ((cs.drop f6.offset).take (P.cellsOf f6.type)) = some y6 ∧ DataW.trod enc P w base spare held n f7.type ((cs.drop f7.offset).take (P.cellsOf f7.type)) = some y7 := by
  obtain ⟨xs, n, _, rfl, hl, hlen, hf⟩ := DataW.trod_struct ht h
  match xs, hlen with
  | [y0, y1, y2, y3, y4, y5, y6, y7], _ => exact ⟨y0, y1, y2, y3, y4, y5, y6, y7, n, by simp, hl, by simpa using hf 0 f0 rfl, by simpa using hf 1 f1 rfl, by simpa using hf 2 f2 rfl, by simpa using hf 3 f3 rfl, by simpa using hf 4 f4 rfl, by simpa using hf 5 f5 rfl, by simpa using hf 6 f6 rfl, by simpa using hf 7 f7 rfl⟩

theorem wfI {n : Int} (h : (Lit.int .i64 n).wf = true) : -9223372036854775808 ≤ n ∧ n ≤ 9223372036854775807 := by
  simpa [Lit.wf, IntKind.min, IntKind.max, IntKind.signed, IntKind.bits] using h

/-- One step that comes in. -/
theorem op_of {H : Type} {enc : TypeId × Value → H} {W : World} {base : Nat} {spare : Nat → Bool} {held : Bool} {fuel : Nat} {cs : List Value} {x : DataW H × List MemPlace} (h : DataW.trod enc Tryz.prog W base spare held fuel 47 cs = some x) :
    (∃ o : Opn, cs = o.cells ∧ o.Ok) ∧ ∃ l, x.1 = .agg l ∧ l.length = 8 := by
  obtain ⟨y0, y1, y2, y3, y4, y5, y6, y7, n, hx, hl, t0, t1, t2, t3, t4, t5, t6, t7⟩ := trod_struct8 Tryz.underlying47 h
  refine ⟨?_, _, hx, rfl⟩
  rw [opCells] at hl
  match cs, hl with
  | [c0, c1, c2, c3, c4, c5, c6, c7, c8, c9, c10], _ =>
    obtain ⟨z0, z1, z2, z3, n', _, hlb, s0, s1, s2, s3⟩ := Go.Joins.trod_struct4 Tryz.underlying45 t2
    obtain ⟨a0, e0, _, _⟩ := DataW.trod_int Tryz.underlying3 t0
    obtain ⟨a1, e1, _, q1⟩ := DataW.trod_int Tryz.underlying3 t1
    obtain ⟨b0, g0, _, _⟩ := DataW.trod_int Tryz.underlying3 s0
    obtain ⟨b1, g1, _, r1⟩ := DataW.trod_string Tryz.underlying9 s1
    obtain ⟨b2, g2, _, r2⟩ := DataW.trod_string Tryz.underlying9 s2
    obtain ⟨b3, g3, _, r3⟩ := DataW.trod_string Tryz.underlying9 s3
    obtain ⟨a3, e3, _, _⟩ := DataW.trod_int Tryz.underlying3 t3
    obtain ⟨a4, e4, _, q4⟩ := DataW.trod_int Tryz.underlying3 t4
    obtain ⟨a5, e5, _, _⟩ := DataW.trod_int Tryz.underlying3 t5
    obtain ⟨a6, e6, _⟩ := DataW.trod_bool Tryz.underlying4 t6
    obtain ⟨a7, e7, _⟩ := DataW.trod_bool Tryz.underlying4 t7
    simp [intCells, strCells, batCells, boolCells] at e0 e1 g0 g1 g2 g3 e3 e4 e5 e6 e7
    refine ⟨⟨a0, a1, ⟨b0, b1.data.toList, b2.data.toList, b3.data.toList, 0, 0⟩, a3, a4, a5, a6, a7⟩, ?_, ⟨(wfI q1).1, (wfI q1).2, (wfI q4).1, (wfI q4).2, by simpa using r1⟩⟩
    simp [Opn.cells, encStr, e0, e1, g0, g1, g2, g3, e3, e4, e5, e6, e7]

/-- A script that comes in. -/
theorem ops_of {H : Type} {enc : TypeId × Value → H} {W : World} {a : Option Addr} {len cap : Nat} {d : DataW H} {p : List MemPlace} (h : DataW.Trod enc Tryz.prog W 0 (fun _ => true) true 43 (.slice a len cap) d p) :
    ∃ os : List Opn, os.length = len ∧ OpsAt W a os ∧ (∀ o ∈ os, o.Ok) ∧ (len = 0 ∨ ∃ elems spare, d = .slice elems spare ∧ elems.length = len ∧ ∀ e ∈ elems, ∃ l, e = .agg l ∧ l.length = 8) := by
  obtain ⟨fuel, hf⟩ := h
  rcases Go.Deep.open_slice Tryz.underlying43 hf with ⟨h1, _⟩ | ⟨a', len', cap', m, n, D, Pl, h1, _, hl, hm, hmm, hx, hel⟩
  · simp only [Value.cells, List.cons.injEq, Value.slice.injEq, and_true] at h1
    obtain ⟨_, rfl, _⟩ := h1
    exact ⟨[], rfl, Or.inl rfl, fun x hx => (by cases hx), Or.inl rfl⟩
  · simp only [Value.cells, List.cons.injEq, Value.slice.injEq, and_true] at h1
    obtain ⟨rfl, rfl, rfl⟩ := h1
    have hmc : m = cap := by simpa using hmm
    subst hmc
    have hcell : ∀ i, i < len → ∃ o : Opn, o.Ok ∧ ∀ (j : Nat) (v : Value), o.cells[j]? = some v → W.cell? ((a'.add (i * 11)).add j) = some v := fun i hi => by
      obtain ⟨cs', hc, ht⟩ := hel i (by omega)
      rw [opCells] at hc
      obtain ⟨⟨o, rfl, hok⟩, _⟩ := op_of ht
      refine ⟨o, hok, fun j v hv => ?_⟩
      obtain ⟨_, hl', hcc⟩ := World.cells?_some hc
      have hj : j < 11 := by have := (List.getElem?_eq_some_iff.1 hv).1; rw [Opn.cells_length] at this; exact this
      have := hcc j hj
      rw [hv] at this
      exact this
    have hagg : ∀ i, i < len → ∃ l, D i = .agg l ∧ l.length = 8 := fun i hi => by
      obtain ⟨cs', hc, ht⟩ := hel i (by omega)
      exact (op_of ht).2
    obtain ⟨os, hlen, hts⟩ := exists_list (n := len) (Q := fun i (o : Opn) => o.Ok ∧ ∀ (j : Nat) (v : Value), o.cells[j]? = some v → W.cell? ((a'.add (i * 11)).add j) = some v) hcell
    have hxd : d = .slice ((List.range len).map D) ((List.range (m - len)).map fun j => D (len + j)) := by simpa using congrArg Prod.fst hx
    refine ⟨os, hlen, ?_, ?_, Or.inr ⟨_, _, hxd, by simp, fun e he => ?_⟩⟩
    · by_cases h0 : len = 0
      · exact Or.inl (List.eq_nil_of_length_eq_zero (by omega))
      · obtain ⟨b, off, sp⟩ := a'
        have hc0 := (hts 0 (by omega)).2 0 _ rfl
        have hsp : sp = none := by
          have h1 := hc0
          cases sp with
          | none => rfl
          | some x =>
            unfold World.cell? at h1
            simp only [Addr.add] at h1
            split at h1
            · split at h1
              · cases h1
              · rename_i hs
                simp at hs
            · cases h1
        subst hsp
        refine Or.inr ⟨b, off, rfl, ?_, fun k o ho j v hv => ?_⟩
        · have := World.block_lt_of_cell? W _ hc0
          rw [Addr.add_mid, Addr.add_mid] at this
          exact this
        · have hk : k < os.length := (List.getElem?_eq_some_iff.1 ho).1
          have e : os[k] = o := (List.getElem?_eq_some_iff.1 ho).2
          have := (hts k hk).2 j v (by rw [e]; exact hv)
          rw [Addr.add_mid, Addr.add_mid] at this
          exact this
    · intro x hx'
      obtain ⟨i, hi, rfl⟩ := List.mem_iff_getElem.1 hx'
      exact (hts i hi).1
    · obtain ⟨i, hi, rfl⟩ := List.mem_map.1 he
      exact hagg i (List.mem_range.1 hi)
end Go.Proofs.YtojpjaifhjigfaaGreatDoor
