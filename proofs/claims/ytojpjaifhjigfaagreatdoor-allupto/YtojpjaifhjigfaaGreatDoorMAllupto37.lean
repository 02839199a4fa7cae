/- Steps of the proof (several texts in one): AllPre, AllArgs. -/
import Derived.Test.YtojpjaifhjigfaaGreatDoorMAllupto36
import Derived.ProofKit
import Derived.Deep.Slices
import Derived.OpenShut
import Derived.Lib.SmallJoins

/- What UpTo up to the ninth kind stands on: the script, the world as it is played. -/
namespace Go.Proofs.YtojpjaifhjigfaaGreatDoor
open Go.RowKit Go.Maps

def zeroCfg : Cfg := { d := 0, q := 0, at' := 0, ba := 0, ca := 0, ti := 0, wi := 0, le := 0, th := 0, op := 0 }
theorem cell_far (w : World) (o o' : Nat) (v : Value) {b b' : Nat} (h : b ≠ b') : (w.setCell ⟨b', o', none⟩ v).cell? ⟨b, o, none⟩ = w.cell? ⟨b, o, none⟩ := World.cell?_of_block (heap_setCell_other _ _ _ _ h)
theorem tenAt_below {w w' : World} {a : Option Addr} {ts : List (List UInt8 × Int)} (h : TenAt w a ts) (hb : Below w.heap.size w w') : TenAt w' a ts := by
  rcases h with h | ⟨b, off, h1, h2, h3⟩
  · exact Or.inl h
  · refine Or.inr ⟨b, off, h1, Nat.lt_of_lt_of_le h2 hb.size, fun k hk => ?_⟩
    rw [hb.cell (p := ⟨b, _, none⟩) h2, hb.cell (p := ⟨b, _, none⟩) h2]
    exact h3 k hk
theorem tenAt_drew {w : World} {a : Option Addr} {ts : List (List UInt8 × Int)} (h : TenAt w a ts) : TenAt w.drew a ts := tenAt_below h (Below.refl _ _).drew

theorem config_ex (g : Nat) (w : World) (h : TenAt w (some ⟨g, 0, none⟩) exTs) : Calls Tryz.prog 15 #[exCfg.val none, .slice (some ⟨g, 0, none⟩) 2 2] w fun e w' => ∃ m', e = .returned (exCfg.val m') ∧ MapAt w' m' (DT exTs) ∧ (∀ b, m' = some b → w.heap.size ≤ b) ∧ Below w.heap.size w w' :=
  config_any exCfg none (some ⟨g, 0, none⟩) 2 exTs w ex_ok h

/-- A script in memory. -/
def OpsAt (w : World) (a : Option Addr) (os : List Opn) : Prop := os = [] ∨ ∃ b off, a = some ⟨b, off, none⟩ ∧ b < w.heap.size ∧ ∀ k o, os[k]? = some o → w.rangeAt b (off + k * 11) o.cells
theorem OpsAt.below {w w' : World} {a : Option Addr} {os : List Opn} (h : OpsAt w a os) (hb : Below w.heap.size w w') : OpsAt w' a os := by
  rcases h with h | ⟨b, off, h1, h2, h3⟩
  · exact Or.inl h
  · exact Or.inr ⟨b, off, h1, Nat.lt_of_lt_of_le h2 hb.size, fun k o ho j v hv => (hb.cell (p := ⟨b, _, none⟩) h2).trans (h3 k o ho j v hv)⟩

theorem infoOp : (Tryz.prog.info? 47).map (·.size) = some 11 := by kernel_rfl
theorem splice_out : ∀ (l : List Value) (cs : Array Value) (o i : Nat), i < o ∨ o + l.length ≤ i → (splice cs o l)[i]? = cs[i]? := by
  intro l
  induction l with
  | nil => intro cs o i _; rfl
  | cons v r ih =>
    intro cs o i h
    simp only [splice]
    simp only [List.length_cons] at h
    rw [ih _ _ _ (by omega), Array.getElem?_setIfInBounds_ne (by omega)]
theorem splice_in : ∀ (l : List Value) (cs : Array Value) (o j : Nat) (v : Value), o + l.length ≤ cs.size → l[j]? = some v → (splice cs o l)[o + j]? = some v := by
  intro l
  induction l with
  | nil => intro cs o j v _ h; simp at h
  | cons x r ih =>
    intro cs o j v hs h
    simp only [splice]
    simp only [List.length_cons] at hs
    cases j with
    | zero =>
      rw [splice_out r _ (o + 1) (o + 0) (by omega)]
      simp at h
      subst h
      simp [show o < cs.size by omega]
    | succ j =>
      have := ih (cs.setIfInBounds o x) (o + 1) j v (by simp; omega) (by simpa using h)
      rw [show o + (j + 1) = o + 1 + j by omega]
      exact this

theorem CfgAt.keepN {w w' : World} {L L' : Labs} {cur cur' : Array Value} {n : Nat} {c : Cfg} {m : Option Nat} {D : DataW Unit} (h : CfgAt w L cur n c m D) {p : Lab → Prop} (s : Step p L w L' w') (hp : ¬ p none) (hc : ∀ i, n * 11 ≤ i → i < n * 11 + 11 → cur'[i]? = cur[i]?) : CfgAt w' L' cur' n c m D := by
  refine ⟨fun j v hv => ?_, ?_, fun b hb => ?_⟩
  · have hj : j < 11 := (Array.getElem?_eq_some_iff.1 hv).1
    rw [hc _ (by omega) (by omega)]
    exact h.cell j v hv
  · rcases h.map with q | ⟨b, n', h1, h2, h3⟩
    · exact Or.inl q
    · exact Or.inr ⟨b, n', h1, ownsMap_of_block h2 (s.block b h2.lt (by rw [h.lab b h1]; exact hp)), h3⟩
  · rcases h.map with ⟨q, _⟩ | ⟨b', n', h1, h2, h3⟩
    · rw [hb] at q; cases q
    · rw [hb] at h1
      cases h1
      rw [s.lab _ h2.lt]
      exact h.lab _ hb

/-- A configuration is stored into the world. -/
theorem WAt.stored {w : World} {L : Labs} {gw : Nat} {A : Nat → Addr} {cur : Array Value} {X : WS} (h : WAt w L gw A cur X) (n : Nat) (hn : n < 2) (c : Cfg) {m : Option Nat} {D : DataW Unit} (hM : MapAt w m D) (hlab : ∀ b, m = some b → L b = none) :
    WAt (w.setCells gw (n * 11) (c.cells m).toList) L gw A (splice cur (n * 11) (c.cells m).toList) X ∧ CfgAt (w.setCells gw (n * 11) (c.cells m).toList) L (splice cur (n * 11) (c.cells m).toList) n c m D ∧
      (∀ i, i < n * 11 ∨ n * 11 + 11 ≤ i → (splice cur (n * 11) (c.cells m).toList)[i]? = cur[i]?) ∧ Step (fun l => l = bl 2 0) L w L (w.setCells gw (n * 11) (c.cells m).toList) := by
  have hl := (Array.getElem?_eq_some_iff.1 h.c25).1
  have hlen : (c.cells m).toList.length = 11 := rfl
  have s : Step (fun l => l = bl 2 0) L w L (w.setCells gw (n * 11) (c.cells m).toList) := Step.setCells L h.blk.2 _ _ _
  have ho : ∀ i, i < n * 11 ∨ n * 11 + 11 ≤ i → (splice cur (n * 11) (c.cells m).toList)[i]? = cur[i]? := fun i hi => splice_out _ _ _ _ (by rw [hlen]; exact hi)
  refine ⟨⟨⟨h.blk.1.setCells _ _, h.blk.2⟩, by rw [ho 22 (by omega)]; exact h.c22, by rw [ho 23 (by omega)]; exact h.c23, by rw [ho 24 (by omega)]; exact h.c24, by rw [ho 25 (by omega)]; exact h.c25, h.prs.keep s (by simp [bl]), fun i v hv => ?_, h.txt.keep s (by simp [bl]) (fun _ _ => by simp [bl]), h.snd.keep s (by simp [bl]) (fun _ _ => by simp [bl]), h.mps.keep s (by simp [bl]) (fun _ _ => by simp [bl]), h.err.keep s (by simp [bl])⟩, ⟨fun j v hv => splice_in _ _ _ _ _ (by rw [hlen]; omega) (by simpa using hv), ?_, hlab⟩, ho, s⟩
  · obtain ⟨gp, e, hP⟩ := h.pr i v hv
    exact ⟨gp, e, hP.keep s (by simp [bl]) (fun k n hk h => by simp [bl] at h; omega) (fun q => by simp [bl]) (fun q => by simp [bl]) (Nat.le_refl _)⟩
  · rcases hM with q | ⟨b, n', h1, h2, h3⟩
    · exact Or.inl q
    · exact Or.inr ⟨b, n', h1, ownsMap_of_block h2 (s.block b h2.lt (by rw [hlab b h1]; simp [bl])), h3⟩

/-- The cells of a World that plays up to nine. -/
abbrev wc9 (c0 c1 : Cfg) (m0 m1 : Option Nat) : Array Value :=
  #[.int .i64 c0.d, .map m0, .int .i64 c0.q, .int .i64 c0.at', .int .i64 c0.ba, .int .i64 c0.ca, .int .i64 c0.ti, .int .i64 c0.wi, .int .i64 c0.le, .float .f64 c0.th, .int .i64 c0.op,
    .int .i64 c1.d, .map m1, .int .i64 c1.q, .int .i64 c1.at', .int .i64 c1.ba, .int .i64 c1.ca, .int .i64 c1.ti, .int .i64 c1.wi, .int .i64 c1.le, .float .f64 c1.th, .int .i64 c1.op, .slice none 0 0, .slice none 0 0, .slice none 0 0, .slice none 0 0, .int .i64 9]

theorem wc9_one {c0 c1 : Cfg} {m0 m1 : Option Nat} {j : Nat} {v : Value} (h : (c1.cells m1)[j]? = some v) : (wc9 c0 c1 m0 m1)[1 * 11 + j]? = some v := by
  have hj : j < 11 := (Array.getElem?_eq_some_iff.1 h).1
  match j, hj with
  | 0, _ | 1, _ | 2, _ | 3, _ | 4, _ | 5, _ | 6, _ | 7, _ | 8, _ | 9, _ | 10, _ => exact h

/-- What is played first. -/
def firstOps : List Opn := [⟨1, 0, ⟨0, [], [], [], 0, 0⟩, 0, 0, 0, false, false⟩, ⟨2, 0, ⟨0, [97], [49], [110, 105, 110, 101, 32, 98, 121, 116, 101], 0, 0⟩, 0, 0, 0, false, false⟩, ⟨3, 0, ⟨0, [], [], [], 0, 0⟩, 0, 0, 0, false, false⟩, ⟨5, 0, ⟨0, [], [49], [], 0, 0⟩, 0, 0, 0, false, false⟩]
theorem firstOk : ∀ o ∈ firstOps, o.Ok := by
  intro o ho
  simp only [firstOps, List.mem_cons, List.not_mem_nil, or_false] at ho
  rcases ho with rfl | rfl | rfl | rfl <;> exact ⟨by decide, by decide, by decide, by decide, by simp [maxLen]⟩

/-- A world as it is played. -/
def Played (W0 : World) (L0 : Labs) (G : Nat) (A : Nat → Addr) (c d : Cfg) (m0 m1 : Option Nat) (D0 D1 : DataW Unit) (t : Nat) (w : World) : Prop :=
  ∃ L cur X, WAt w L G A cur X ∧ AllX X ∧ CfgAt w L cur 0 c m0 D0 ∧ CfgAt w L cur 1 d m1 D1 ∧ cur[26]? = some (.int .i64 9) ∧ ((1 ≤ t → 1 ≤ X.np) ∧ X.np ≤ 1 + t ∧ X.nt % 4 = 0 ∧ X.nt ≤ 8 * t ∧ X.ns % 4 = 0 ∧ X.ns ≤ 4 * t ∧ X.nm ≤ 2 * t ∧ X.t = 200 * t) ∧ Step labP L0 W0 L w

theorem Played.below {W0 w w' : World} {L0 : Labs} {G : Nat} {A : Nat → Addr} {c d : Cfg} {m0 m1 : Option Nat} {D0 D1 : DataW Unit} {t : Nat} (h : Played W0 L0 G A c d m0 m1 D0 D1 t w) (hX : Below w.heap.size w w') : Played W0 L0 G A c d m0 m1 D0 D1 t w' := by
  obtain ⟨L, cur, X, q1, qX, q2, q3, q4, q5, q6⟩ := h
  have hs := Step.of_below (p := fun _ => False) (L := L) hX
  exact ⟨L, cur, X, q1.below hX, qX, q2.keepN hs (fun h => h) (fun _ _ _ => rfl), q3.keepN hs (fun h => h) (fun _ _ _ => rfl), q4, q5, q6.trans (Step.of_below hX)⟩
theorem Played.step {W0 w : World} {L0 : Labs} {G : Nat} {A : Nat → Addr} {c d : Cfg} {m0 m1 : Option Nat} {D0 D1 : DataW Unit} {t : Nat} (h : Played W0 L0 G A c d m0 m1 D0 D1 t w) (h1 : 1 ≤ t) (ht : t ≤ 500000) (o : Opn) (ho : o.Ok) :
    Calls Tryz.prog 18 #[.pointer (some ⟨G, 0, none⟩), o.val] w fun e w' => e = .returned (.bool true) ∧ Played W0 L0 G A c d m0 m1 D0 D1 (t + 1) w' := by
  obtain ⟨L, cur, X, q1, qX, q2, q3, q4, ⟨p1, p2, p3, p4, p5, p6, p7, p8⟩, q6⟩ := h
  refine (step_any L G A o cur X c d m0 m1 D0 D1 w q1 qX q2 q3 ⟨q4, p3, p5, p1 h1, by omega, by omega, by omega, by omega, by omega⟩ ho).mono ?_
  rintro e w' ⟨rfl, L', cur', X', r1, rX, ⟨s1, s2, s3, s4, s5, s6, s7, s8⟩, r7, r8⟩
  have := p1 h1
  exact ⟨rfl, L', cur', X', r1, rX, (q2.keepN r8 (by simp [labP]) (fun i _ h2 => r7 i (by omega))), (q3.keepN r8 (by simp [labP]) (fun i _ h2 => r7 i (by omega))), (r7 26 (by omega)).trans q4, ⟨fun _ => by omega, by omega, s3, by omega, s5, by omega, by omega, by omega⟩, q6.trans r8⟩
theorem Played.open {W0 w : World} {L0 : Labs} {G : Nat} {A : Nat → Addr} {c d : Cfg} {m0 m1 : Option Nat} {D0 D1 : DataW Unit} (h : Played W0 L0 G A c d m0 m1 D0 D1 0 w) (hg : GoodC c D0) (o : Opn) (ho : o.Ok) (hk : o.k = 1) (hm : pickN o.ms 2 = 0) :
    Calls Tryz.prog 18 #[.pointer (some ⟨G, 0, none⟩), o.val] w fun e w' => e = .returned (.bool true) ∧ Played W0 L0 G A c d m0 m1 D0 D1 1 w' := by
  obtain ⟨L, cur, X, q1, qX, q2, q3, q4, ⟨p1, p2, p3, p4, p5, p6, p7, p8⟩, q6⟩ := h
  refine (step_open L G A o cur X c d m0 m1 D0 D1 w q1 qX q2 q3 ho hk p3 p5 (by omega)).mono ?_
  rintro e w' ⟨rfl, _, hx⟩
  obtain ⟨L', cur', X', r1, rX, r2, r3, r4, r5, r6, r7, r8⟩ := hx hg hm
  exact ⟨rfl, L', cur', X', r1, rX, (q2.keepN r8 (by simp [labP]) (fun i _ h2 => r7 i (by omega))), (q3.keepN r8 (by simp [labP]) (fun i _ h2 => r7 i (by omega))), (r7 26 (by omega)).trans q4, ⟨fun _ => by omega, by omega, by omega, by omega, by omega, by omega, by omega, by omega⟩, q6.trans r8⟩
theorem Played.whole {W0 w : World} {L0 : Labs} {G : Nat} {A : Nat → Addr} {c d : Cfg} {m0 m1 : Option Nat} {D0 D1 : DataW Unit} {t : Nat} (h : Played W0 L0 G A c d m0 m1 D0 D1 t w) (ht : t ≤ 500000) :
    Calls Tryz.prog 19 #[.pointer (some ⟨G, 23, none⟩)] w fun e w' => e = .returned (.bool true) ∧ Played W0 L0 G A c d m0 m1 D0 D1 t w' := by
  have h' := h
  obtain ⟨L, cur, X, q1, qX, q2, q3, q4, ⟨p1, p2, p3, p4, p5, p6, p7, p8⟩, q6⟩ := h
  refine (wholeS_any L G X.nt X.ns X.nm X.tv X.sv X.mv cur w q1.blk q1.c23 q1.c24 q1.c25 q1.txt q1.snd q1.mps (by omega) (by omega) (by omega)).mono ?_
  rintro e w' ⟨rfl, hb⟩
  exact ⟨rfl, h'.below hb⟩
theorem Played.asked {W0 w : World} {L0 : Labs} {G : Nat} {A : Nat → Addr} {c d : Cfg} {m0 m1 : Option Nat} {D0 D1 : DataW Unit} {t : Nat} (h : Played W0 L0 G A c d m0 m1 D0 D1 t w) (ht : t ≤ 400004) :
    Calls Tryz.prog 17 #[.pointer (some ⟨G, 0, none⟩)] w fun e w' => e = .returned (.bool true) ∧ ∃ L', Step labP L0 W0 L' w' := by
  obtain ⟨L, cur, X, q1, qX, q2, q3, q4, ⟨p1, p2, p3, p4, p5, p6, p7, p8⟩, q6⟩ := h
  refine (asked_any L G A cur X w q1 p3 (by omega) (by omega) (by omega)).mono ?_
  rintro e w' ⟨rfl, L', hs⟩
  exact ⟨rfl, L', q6.trans (hs.mono (fun l h => someP_lab h))⟩
theorem Played.kept {W0 w : World} {L0 : Labs} {G : Nat} {A : Nat → Addr} {c d : Cfg} {m0 m1 : Option Nat} {D0 D1 : DataW Unit} {t : Nat} (h : Played W0 L0 G A c d m0 m1 D0 D1 t w) : (∃ L, Step labP L0 W0 L w) ∧ G < w.heap.size := by
  obtain ⟨L, cur, X, q1, qX, q2, q3, q4, q5, q6⟩ := h
  exact ⟨⟨L, q6⟩, q1.blk.1.lt⟩
/-- Blocks that nobody owned stay. -/
theorem Played.old {W0 w : World} {L0 : Labs} {G : Nat} {A : Nat → Addr} {c d : Cfg} {m0 m1 : Option Nat} {D0 D1 : DataW Unit} {t : Nat} (h : Played W0 L0 G A c d m0 m1 D0 D1 t w) {B : Nat} (hB : B ≤ W0.heap.size) (hn : ∀ k, k < B → L0 k = none) : Below B W0 w := by
  obtain ⟨⟨L, hs⟩, _⟩ := h.kept
  exact hs.below hB (fun k hk => by rw [hn k hk]; simp [labP])
theorem setCells_append (g : Nat) : ∀ (a b : List Value) (w : World) (o : Nat), w.setCells g o (a ++ b) = (w.setCells g o a).setCells g (o + a.length) b
  | [], b, w, o => rfl
  | v :: r, b, w, o => by
    show (w.setCell ⟨g, o, none⟩ v).setCells g (o + 1) (r ++ b) = ((w.setCell ⟨g, o, none⟩ v).setCells g (o + 1) r).setCells g (o + (r.length + 1)) b
    rw [setCells_append g r b _ (o + 1), show o + 1 + r.length = o + (r.length + 1) by omega]
set_option maxHeartbeats 1000000 in
/-- Other configurations are stored. -/
theorem Played.stored {W0 w : World} {L0 : Labs} {G : Nat} {A : Nat → Addr} {c d c' d' : Cfg} {m0 m1 m0' m1' : Option Nat} {D0 D1 D0' D1' : DataW Unit} {t : Nat} (h : Played W0 L0 G A c d m0 m1 D0 D1 t w) (hM0 : MapAt w m0' D0') (hM1 : MapAt w m1' D1') (hn0 : ∀ b, m0' = some b → L0 b = none ∧ b < W0.heap.size) (hn1 : ∀ b, m1' = some b → L0 b = none ∧ b < W0.heap.size) :
    Played W0 L0 G A c' d' m0' m1' D0' D1' t (w.setCells G 0 ((c'.cells m0').toList ++ (d'.cells m1').toList)) := by
  obtain ⟨L, cur, X, q1, qX, q2, q3, q4, q5, q6⟩ := h
  obtain ⟨r1, r2, r3, r4⟩ := q1.stored 0 (by omega) c' hM0 (fun b hb => by rw [q6.lab b (hn0 b hb).2]; exact (hn0 b hb).1)
  have hM1' : MapAt (w.setCells G (0 * 11) (c'.cells m0').toList) m1' D1' := by
    rcases hM1 with q | ⟨b, n', h1, h2, h3⟩
    · exact Or.inl q
    · exact Or.inr ⟨b, n', h1, ownsMap_of_block h2 (r4.block b h2.lt (by rw [q6.lab b (hn1 b h1).2, (hn1 b h1).1]; simp [bl])), h3⟩
  obtain ⟨s1, s2, s3, s4⟩ := r1.stored 1 (by omega) d' hM1' (fun b hb => by rw [q6.lab b (hn1 b hb).2]; exact (hn1 b hb).1)
  have e : w.setCells G 0 ((c'.cells m0').toList ++ (d'.cells m1').toList) = (w.setCells G (0 * 11) (c'.cells m0').toList).setCells G (1 * 11) (d'.cells m1').toList := setCells_append G _ _ w 0
  rw [e]
  clear e
  exact ⟨L, _, X, s1, qX, r2.keepN s4 (by simp [bl]) (fun i h1 h2 => s3 i (by omega)), s2, (s3 26 (by omega)).trans ((r3 26 (by omega)).trans q4), q5, q6.trans ((r4.trans s4).mono (fun l h => by rw [h]; simp [labP, bl]))⟩

theorem flat_range {l : List Opn} {k : Nat} {o : Opn} {w : World} {g : Nat} {cur : Array Value} (hb : Blk w g cur 47) (hc : ∀ (j : Nat) (v : Value), (l.flatMap Opn.cells)[j]? = some v → cur[j]? = some v) (ho : l[k]? = some o) : w.rangeAt g (k * 11) o.cells := fun j v hv => by
  rw [hb.cell]
  exact hc _ _ (flat_cell Opn.cells 11 Opn.cells_length ho (by have := (List.getElem?_eq_some_iff.1 hv).1; rw [Opn.cells_length] at this; exact this) hv)
end Go.Proofs.YtojpjaifhjigfaaGreatDoor

/- What a configuration, a list of tenants and a script look like that come in as arguments. -/
namespace Go.Proofs.YtojpjaifhjigfaaGreatDoor
open Go.ChangeShapes Go.WideShapes Go.ChangeAt Go.WideMaps Go.WideElems Go.RowKit
set_option maxRecDepth 100000

theorem cellInt {w : World} {r : Reach} {b : Nat} {v : Value} (h : Cell.okWide Tryz.prog w r b 3 v) : ∃ n, v = .int .i64 n := by
  unfold Cell.okWide Cell.ok at h
  simp only [Tryz.underlying3] at h
  cases v <;> simp at h
  exact ⟨_, by rw [h.1]⟩
theorem cellFloat {w : World} {r : Reach} {b : Nat} {v : Value} (h : Cell.okWide Tryz.prog w r b 23 v) : ∃ n, v = .float .f64 n := by
  unfold Cell.okWide Cell.ok at h
  simp only [Tryz.underlying23] at h
  cases v <;> simp at h
  exact ⟨_, by rw [h.1]⟩
theorem cellMap {w : World} {r : Reach} {b : Nat} {v : Value} (h : Cell.okWide Tryz.prog w r b 22 v) : ∃ n, v = .map n := by
  unfold Cell.okWide Cell.ok at h
  simp only [Tryz.underlying22] at h
  cases v <;> simp at h
  exact ⟨_, rfl⟩

theorem cfgTypes : Tryz.prog.cellTypes Tryz.prog.depth 25 = some [3, 22, 3, 3, 3, 3, 3, 3, 3, 23, 3] := by kernel_rfl
theorem cfgCellsOf : Tryz.prog.cellsOf 25 = 11 := by kernel_rfl
theorem tenCells : Tryz.prog.cellsOf 94 = 2 := by kernel_rfl
theorem strCells : Tryz.prog.cellsOf 9 = 1 := by kernel_rfl
theorem intCells : Tryz.prog.cellsOf 3 = 1 := by kernel_rfl
/-- A configuration that comes in is one of eleven cells. -/
theorem cfg_shape {w : World} {r : Reach} {b : Nat} {v : Value} (h : Value.okWide Tryz.prog w r b 25 v) : ∃ (c : Cfg) (m : Option Nat), v = c.val m := by
  unfold Value.okWide at h
  simp only [Tryz.underlying25] at h
  obtain ⟨⟨l⟩, rfl, hsz, ts, hts, _, hc⟩ := h
  rw [cfgCellsOf] at hsz
  rw [cfgTypes] at hts
  obtain rfl := Option.some.inj hts
  match l, hsz with
  | [a0, a1, a2, a3, a4, a5, a6, a7, a8, a9, a10], _ =>
    have g : ∀ (i : Nat) (v : Value) (t : TypeId), #[a0, a1, a2, a3, a4, a5, a6, a7, a8, a9, a10][i]? = some v → [3, 22, 3, 3, 3, 3, 3, 3, 3, 23, 3][i % 11]? = some t → Cell.okWide Tryz.prog w r b t v := fun i v t h1 h2 => by
      obtain ⟨u, hu, hk⟩ := hc i v h1
      have e : u = t := Option.some.inj (hu.symm.trans h2)
      rw [← e]; exact hk
    obtain ⟨n0, rfl⟩ := cellInt (g 0 _ _ rfl rfl)
    obtain ⟨m1, rfl⟩ := cellMap (g 1 _ _ rfl rfl)
    obtain ⟨n2, rfl⟩ := cellInt (g 2 _ _ rfl rfl)
    obtain ⟨n3, rfl⟩ := cellInt (g 3 _ _ rfl rfl)
    obtain ⟨n4, rfl⟩ := cellInt (g 4 _ _ rfl rfl)
    obtain ⟨n5, rfl⟩ := cellInt (g 5 _ _ rfl rfl)
    obtain ⟨n6, rfl⟩ := cellInt (g 6 _ _ rfl rfl)
    obtain ⟨n7, rfl⟩ := cellInt (g 7 _ _ rfl rfl)
    obtain ⟨n8, rfl⟩ := cellInt (g 8 _ _ rfl rfl)
    obtain ⟨n9, rfl⟩ := cellFloat (g 9 _ _ rfl rfl)
    obtain ⟨n10, rfl⟩ := cellInt (g 10 _ _ rfl rfl)
    exact ⟨⟨n0, n2, n3, n4, n5, n6, n7, n8, n9, n10⟩, m1, rfl⟩

theorem exists_list {α : Type} {n : Nat} {Q : Nat → α → Prop} (h : ∀ i, i < n → ∃ x, Q i x) : ∃ l : List α, l.length = n ∧ ∀ i (hi : i < l.length), Q i (l[i]'hi) := by
  induction n with
  | zero => exact ⟨[], rfl, fun i hi => absurd hi (Nat.not_lt_zero _)⟩
  | succ n ih =>
    obtain ⟨l, hl, hq⟩ := ih (fun i hi => h i (by omega))
    obtain ⟨x, hx⟩ := h n (by omega)
    refine ⟨l ++ [x], by simp [hl], fun i hi => ?_⟩
    by_cases hin : i < l.length
    · rw [List.getElem_append_left hin]; exact hq i hin
    · have e : i = l.length := by simp at hi; omega
      subst e
      simp [hl]
      exact hx

/-- A list of tenants that comes in. -/
theorem tenants_of {H : Type} {enc : TypeId × Value → H} {W : World} {a : Option Addr} {len cap : Nat} {d : DataW H} {p : List MemPlace} (h : DataW.Trod enc Tryz.prog W 0 (fun _ => true) true 26 (.slice a len cap) d p) :
    ∃ ts : List (List UInt8 × Int), ts.length = len ∧ TenAt W a ts ∧ (∀ x ∈ ts, x.1.length ≤ maxLen ∧ (Lit.int .i64 x.2).wf = true) ∧ (len = 0 ∨ ∃ elems spare, d = .slice elems spare ∧ elems.length = len) := by
  obtain ⟨fuel, hf⟩ := h
  rcases Go.Deep.open_slice Tryz.underlying26 hf with ⟨h1, _⟩ | ⟨a', len', cap', m, n, D, Pl, h1, _, hl, hm, hmm, hx, hel⟩
  · simp only [Value.cells, List.cons.injEq, Value.slice.injEq, and_true] at h1
    obtain ⟨_, rfl, _⟩ := h1
    exact ⟨[], rfl, Or.inl rfl, fun x hx => (by cases hx), Or.inl rfl⟩
  · simp only [Value.cells, List.cons.injEq, Value.slice.injEq, and_true] at h1
    obtain ⟨rfl, rfl, rfl⟩ := h1
    have hmc : m = cap := by simpa using hmm
    subst hmc
    have hcell : ∀ i, i < len → ∃ (s : List UInt8) (q : Int), W.cell? (a'.add (i * 2)) = some (encStr s) ∧ W.cell? ((a'.add (i * 2)).add 1) = some (.int .i64 q) ∧ s.length ≤ maxLen ∧ (Lit.int .i64 q).wf = true := fun i hi => by
      obtain ⟨cs', hc, ht⟩ := hel i (by omega)
      rw [tenCells] at hc
      obtain ⟨y0, y1, n', _, hlc, t0, t1⟩ := trod_struct2 Tryz.underlying94 ht
      rw [tenCells] at hlc
      match cs', hlc with
      | [c0, c1], _ =>
        obtain ⟨s, e0, _, hs⟩ := DataW.trod_string Tryz.underlying9 t0
        obtain ⟨q, e1, _, hq⟩ := DataW.trod_int Tryz.underlying3 t1
        obtain ⟨_, _, hcc⟩ := World.cells?_some hc
        have k0 := hcc 0 (by omega)
        have k1 := hcc 1 (by omega)
        refine ⟨s.data.toList, q, ?_, ?_, by simpa using hs, hq⟩
        · have e0' : c0 = .string s := by simpa [strCells] using e0
          rw [e0'] at k0
          simpa [Addr.add] using k0
        · have e1' : c1 = .int .i64 q := by simpa [intCells] using e1
          rw [e1'] at k1
          simpa using k1
    obtain ⟨ts, hlen, hts⟩ := exists_list (n := len) (Q := fun i (x : List UInt8 × Int) => W.cell? (a'.add (i * 2)) = some (encStr x.1) ∧ W.cell? ((a'.add (i * 2)).add 1) = some (.int .i64 x.2) ∧ x.1.length ≤ maxLen ∧ (Lit.int .i64 x.2).wf = true) (fun i hi => by
      obtain ⟨s, q, h⟩ := hcell i hi
      exact ⟨(s, q), h⟩)
    have hxd : d = .slice ((List.range len).map D) ((List.range (m - len)).map fun j => D (len + j)) := by simpa using congrArg Prod.fst hx
    refine ⟨ts, hlen, ?_, ?_, Or.inr ⟨_, _, hxd, by simp⟩⟩
    · by_cases h0 : len = 0
      · exact Or.inl (List.eq_nil_of_length_eq_zero (by omega))
      · obtain ⟨b, off, sp⟩ := a'
        have hsp : sp = none := by
          have h1 := (hts 0 (by omega)).1
          cases sp with
          | none => rfl
          | some x =>
            have hlt := World.block_lt_of_cell? W _ h1
            unfold World.cell? at h1
            simp only [Addr.add] at h1
            split at h1
            · split at h1
              · cases h1
              · rename_i hs
                simp at hs
            · cases h1
        subst hsp
        refine Or.inr ⟨b, off, rfl, ?_, fun k hk => ?_⟩
        · have := World.block_lt_of_cell? W _ (hts 0 (by omega)).1
          rw [Addr.add_mid] at this
          exact this
        · have h1 := (hts k hk).1
          have h2 := (hts k hk).2.1
          rw [Addr.add_mid] at h1
          rw [Addr.add_mid, Addr.add_mid] at h2
          exact ⟨h1, h2⟩
    · intro x hx'
      obtain ⟨i, hi, rfl⟩ := List.mem_iff_getElem.1 hx'
      exact (hts i hi).2.2
theorem opCells : Tryz.prog.cellsOf 47 = 11 := by kernel_rfl
theorem batCells : Tryz.prog.cellsOf 45 = 4 := by kernel_rfl
theorem boolCells : Tryz.prog.cellsOf 4 = 1 := by kernel_rfl

theorem trod_struct8 {H : Type} {enc : TypeId × Value → H} {P : Program} {w : World} {base : Nat} {spare : Nat → Bool} {held : Bool} {t : TypeId} {f0 f1 f2 f3 f4 f5 f6 f7 : Field} {fuel : Nat} {cs : List Value} {x : DataW H × List MemPlace} (ht : P.underlying t = some (.struct #[f0, f1, f2, f3, f4, f5, f6, f7])) (h : DataW.trod enc P w base spare held fuel t cs = some x) :
    ∃ y0 y1 y2 y3 y4 y5 y6 y7 n, x.1 = .agg [y0.1, y1.1, y2.1, y3.1, y4.1, y5.1, y6.1, y7.1] ∧ cs.length = P.cellsOf t ∧ DataW.trod enc P w base spare held n f0.type ((cs.drop f0.offset).take (P.cellsOf f0.type)) = some y0 ∧ DataW.trod enc P w base spare held n f1.type ((cs.drop f1.offset).take (P.cellsOf f1.type)) = some y1 ∧
      DataW.trod enc P w base spare held n f2.type ((cs.drop f2.offset).take (P.cellsOf f2.type)) = some y2 ∧ DataW.trod enc P w base spare held n f3.type ((cs.drop f3.offset).take (P.cellsOf f3.type)) = some y3 ∧ DataW.trod enc P w base spare held n f4.type ((cs.drop f4.offset).take (P.cellsOf f4.type)) = some y4 ∧
      DataW.trod enc P w base spare held n f5.type ((cs.drop f5.offset).take (P.cellsOf f5.type)) = some y5 ∧ DataW.trod enc P w base spare held n f6.type ((cs.drop f6.offset).take (P.cellsOf f6.type)) = some y6 ∧ DataW.trod enc P w base spare held n f7.type ((cs.drop f7.offset).take (P.cellsOf f7.type)) = some y7 := by
  obtain ⟨xs, n, _, rfl, hl, hlen, hf⟩ := DataW.trod_struct ht h
  match xs, hlen with
  | [y0, y1, y2, y3, y4, y5, y6, y7], _ => exact ⟨y0, y1, y2, y3, y4, y5, y6, y7, n, by simp, hl, by simpa using hf 0 f0 rfl, by simpa using hf 1 f1 rfl, by simpa using hf 2 f2 rfl, by simpa using hf 3 f3 rfl, by simpa using hf 4 f4 rfl, by simpa using hf 5 f5 rfl, by simpa using hf 6 f6 rfl, by simpa using hf 7 f7 rfl⟩

theorem wfI {n : Int} (h : (Lit.int .i64 n).wf = true) : -9223372036854775808 ≤ n ∧ n ≤ 9223372036854775807 := by
  simpa [Lit.wf, IntKind.min, IntKind.max, IntKind.signed, IntKind.bits] using h

/-- One step that comes in. -/
theorem op_of {H : Type} {enc : TypeId × Value → H} {W : World} {base : Nat} {spare : Nat → Bool} {held : Bool} {fuel : Nat} {cs : List Value} {x : DataW H × List MemPlace} (h : DataW.trod enc Tryz.prog W base spare held fuel 47 cs = some x) :
    (∃ o : Opn, cs = o.cells ∧ o.Ok) ∧ ∃ l, x.1 = .agg l ∧ l.length = 8 := by
  obtain ⟨y0, y1, y2, y3, y4, y5, y6, y7, n, hx, hl, t0, t1, t2, t3, t4, t5, t6, t7⟩ := trod_struct8 Tryz.underlying47 h
  refine ⟨?_, _, hx, rfl⟩
  rw [opCells] at hl
  match cs, hl with
  | [c0, c1, c2, c3, c4, c5, c6, c7, c8, c9, c10], _ =>
    obtain ⟨z0, z1, z2, z3, n', _, hlb, s0, s1, s2, s3⟩ := Go.Joins.trod_struct4 Tryz.underlying45 t2
    obtain ⟨a0, e0, _, _⟩ := DataW.trod_int Tryz.underlying3 t0
    obtain ⟨a1, e1, _, q1⟩ := DataW.trod_int Tryz.underlying3 t1
    obtain ⟨b0, g0, _, _⟩ := DataW.trod_int Tryz.underlying3 s0
    obtain ⟨b1, g1, _, r1⟩ := DataW.trod_string Tryz.underlying9 s1
    obtain ⟨b2, g2, _, r2⟩ := DataW.trod_string Tryz.underlying9 s2
    obtain ⟨b3, g3, _, r3⟩ := DataW.trod_string Tryz.underlying9 s3
    obtain ⟨a3, e3, _, _⟩ := DataW.trod_int Tryz.underlying3 t3
    obtain ⟨a4, e4, _, q4⟩ := DataW.trod_int Tryz.underlying3 t4
    obtain ⟨a5, e5, _, _⟩ := DataW.trod_int Tryz.underlying3 t5
    obtain ⟨a6, e6, _⟩ := DataW.trod_bool Tryz.underlying4 t6
    obtain ⟨a7, e7, _⟩ := DataW.trod_bool Tryz.underlying4 t7
    simp [intCells, strCells, batCells, boolCells] at e0 e1 g0 g1 g2 g3 e3 e4 e5 e6 e7
    refine ⟨⟨a0, a1, ⟨b0, b1.data.toList, b2.data.toList, b3.data.toList, 0, 0⟩, a3, a4, a5, a6, a7⟩, ?_, ⟨(wfI q1).1, (wfI q1).2, (wfI q4).1, (wfI q4).2, by simpa using r1⟩⟩
    simp [Opn.cells, encStr, e0, e1, g0, g1, g2, g3, e3, e4, e5, e6, e7]

/-- A script that comes in. -/
theorem ops_of {H : Type} {enc : TypeId × Value → H} {W : World} {a : Option Addr} {len cap : Nat} {d : DataW H} {p : List MemPlace} (h : DataW.Trod enc Tryz.prog W 0 (fun _ => true) true 43 (.slice a len cap) d p) :
    ∃ os : List Opn, os.length = len ∧ OpsAt W a os ∧ (∀ o ∈ os, o.Ok) ∧ (len = 0 ∨ ∃ elems spare, d = .slice elems spare ∧ elems.length = len ∧ ∀ e ∈ elems, ∃ l, e = .agg l ∧ l.length = 8) := by
  obtain ⟨fuel, hf⟩ := h
  rcases Go.Deep.open_slice Tryz.underlying43 hf with ⟨h1, _⟩ | ⟨a', len', cap', m, n, D, Pl, h1, _, hl, hm, hmm, hx, hel⟩
  · simp only [Value.cells, List.cons.injEq, Value.slice.injEq, and_true] at h1
    obtain ⟨_, rfl, _⟩ := h1
    exact ⟨[], rfl, Or.inl rfl, fun x hx => (by cases hx), Or.inl rfl⟩
  · simp only [Value.cells, List.cons.injEq, Value.slice.injEq, and_true] at h1
    obtain ⟨rfl, rfl, rfl⟩ := h1
    have hmc : m = cap := by simpa using hmm
    subst hmc
    have hcell : ∀ i, i < len → ∃ o : Opn, o.Ok ∧ ∀ (j : Nat) (v : Value), o.cells[j]? = some v → W.cell? ((a'.add (i * 11)).add j) = some v := fun i hi => by
      obtain ⟨cs', hc, ht⟩ := hel i (by omega)
      rw [opCells] at hc
      obtain ⟨⟨o, rfl, hok⟩, _⟩ := op_of ht
      refine ⟨o, hok, fun j v hv => ?_⟩
      obtain ⟨_, hl', hcc⟩ := World.cells?_some hc
      have hj : j < 11 := by have := (List.getElem?_eq_some_iff.1 hv).1; rw [Opn.cells_length] at this; exact this
      have := hcc j hj
      rw [hv] at this
      exact this
    have hagg : ∀ i, i < len → ∃ l, D i = .agg l ∧ l.length = 8 := fun i hi => by
      obtain ⟨cs', hc, ht⟩ := hel i (by omega)
      exact (op_of ht).2
    obtain ⟨os, hlen, hts⟩ := exists_list (n := len) (Q := fun i (o : Opn) => o.Ok ∧ ∀ (j : Nat) (v : Value), o.cells[j]? = some v → W.cell? ((a'.add (i * 11)).add j) = some v) hcell
    have hxd : d = .slice ((List.range len).map D) ((List.range (m - len)).map fun j => D (len + j)) := by simpa using congrArg Prod.fst hx
    refine ⟨os, hlen, ?_, ?_, Or.inr ⟨_, _, hxd, by simp, fun e he => ?_⟩⟩
    · by_cases h0 : len = 0
      · exact Or.inl (List.eq_nil_of_length_eq_zero (by omega))
      · obtain ⟨b, off, sp⟩ := a'
        have hc0 := (hts 0 (by omega)).2 0 _ rfl
        have hsp : sp = none := by
          have h1 := hc0
          cases sp with
          | none => rfl
          | some x =>
            unfold World.cell? at h1
            simp only [Addr.add] at h1
            split at h1
            · split at h1
              · cases h1
              · rename_i hs
                simp at hs
            · cases h1
        subst hsp
        refine Or.inr ⟨b, off, rfl, ?_, fun k o ho j v hv => ?_⟩
        · have := World.block_lt_of_cell? W _ hc0
          rw [Addr.add_mid, Addr.add_mid] at this
          exact this
        · have hk : k < os.length := (List.getElem?_eq_some_iff.1 ho).1
          have e : os[k] = o := (List.getElem?_eq_some_iff.1 ho).2
          have := (hts k hk).2 j v (by rw [e]; exact hv)
          rw [Addr.add_mid, Addr.add_mid] at this
          exact this
    · intro x hx'
      obtain ⟨i, hi, rfl⟩ := List.mem_iff_getElem.1 hx'
      exact (hts i hi).1
    · obtain ⟨i, hi, rfl⟩ := List.mem_map.1 he
      exact hagg i (List.mem_range.1 hi)
end Go.Proofs.YtojpjaifhjigfaaGreatDoor
