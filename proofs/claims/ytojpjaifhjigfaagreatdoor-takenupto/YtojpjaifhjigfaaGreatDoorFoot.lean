/- Who owns which block: a ghost labelling of the heap; rows, blocks and maps with their labels; what a step leaves as it was. -/
import Derived.Test.YtojpjaifhjigfaaGreatDoorBase
import Derived.Maps.Ext
import Derived.Maps.AppendAt
import Derived.Deep.AppendLies
namespace Go.Proofs.YtojpjaifhjigfaaGreatDoor
open Go.RowKit Go.Maps

/-- What a block is to its owner. -/
inductive Part where
  | ag | tk | qm | qr (d : Int) (t : List UInt8) | dd | nm | rt | ol | cr (d : Nat) | th (d : Nat) | cm | ot (k n : Nat)

/-- Nobody's, or an owner's. -/
abbrev Lab := Option (Nat × Part)
abbrev Labs := Nat → Lab

/-- One block more has a label. -/
def lay (L : Labs) (g : Nat) (l : Lab) : Labs := fun k => if k = g then l else L k
theorem lay_same (L : Labs) (g : Nat) (l : Lab) : lay L g l g = l := by simp [lay]
theorem lay_other (L : Labs) {g k : Nat} (l : Lab) (h : k ≠ g) : lay L g l k = L k := by simp [lay, h]
theorem lay_below {L : Labs} {g : Nat} {l : Lab} {n : Nat} (h : L g = l ∨ n ≤ g) : ∀ k, k < n → lay L g l k = L k := fun k hk => by
  by_cases e : k = g
  · subst e
    rcases h with h | h
    · rw [lay_same, h]
    · omega
  · exact lay_other L l e

/-- Of the blocks that were there only such turn whose label is of p; the labels stay. -/
structure Step (p : Lab → Prop) (L : Labs) (w : World) (L' : Labs) (w' : World) : Prop where
  os : w'.os = w.os
  tape : w'.tape = w.tape
  output : w'.output = w.output
  size : w.heap.size ≤ w'.heap.size
  lab : ∀ k, k < w.heap.size → L' k = L k
  block : ∀ k, k < w.heap.size → ¬ p (L k) → w'.heap[k]? = w.heap[k]?

theorem Step.refl (p : Lab → Prop) (L : Labs) (w : World) : Step p L w L w := ⟨rfl, rfl, rfl, Nat.le_refl _, fun _ _ => rfl, fun _ _ _ => rfl⟩
theorem Step.trans {p : Lab → Prop} {L L1 L2 : Labs} {w w1 w2 : World} (h : Step p L w L1 w1) (k : Step p L1 w1 L2 w2) : Step p L w L2 w2 :=
  ⟨k.os.trans h.os, k.tape.trans h.tape, k.output.trans h.output, Nat.le_trans h.size k.size, fun i hi => (k.lab i (Nat.lt_of_lt_of_le hi h.size)).trans (h.lab i hi),
   fun i hi hp => (k.block i (Nat.lt_of_lt_of_le hi h.size) (by rw [h.lab i hi]; exact hp)).trans (h.block i hi hp)⟩
theorem Step.mono {p q : Lab → Prop} {L L1 : Labs} {w w1 : World} (h : Step p L w L1 w1) (hpq : ∀ l, p l → q l) : Step q L w L1 w1 := ⟨h.os, h.tape, h.output, h.size, h.lab, fun k hk hn => h.block k hk (fun hp => hn (hpq _ hp))⟩
theorem Step.of_below {p : Lab → Prop} {L : Labs} {w w' : World} (h : Below w.heap.size w w') : Step p L w L w' := ⟨h.os, h.tape, h.output, h.size, fun _ _ => rfl, fun k hk _ => h.block k hk⟩
theorem Step.of_below' {p : Lab → Prop} {L L' : Labs} {w w' : World} (h : Below w.heap.size w w') (hl : ∀ k, k < w.heap.size → L' k = L k) : Step p L w L' w' := ⟨h.os, h.tape, h.output, h.size, hl, fun k hk _ => h.block k hk⟩
theorem Step.of_grown {p : Lab → Prop} {L L' : Labs} {w w' : World} {row : Option Nat} (h : w.grownBy w' row) (hr : ∀ j, row = some j → p (L j)) (hl : ∀ k, k < w.heap.size → L' k = L k) : Step p L w L' w' :=
  ⟨h.os, h.tape, h.output, h.size, hl, fun k hk hn => h.block k hk (fun e => hn (hr k e.symm))⟩
theorem Step.setCell {p : Lab → Prop} (L : Labs) (w : World) (a : Addr) (v : Value) (hp : p (L a.block)) : Step p L w L (w.setCell a v) :=
  ⟨rfl, rfl, rfl, by simp [World.setCell], fun _ _ => rfl, fun k _ hn => Below.heap_setCell _ _ _ _ (fun e => hn (by rw [e]; exact hp))⟩
theorem Step.setCells {p : Lab → Prop} (L : Labs) {b : Nat} (hp : p (L b)) (vs : List Value) : ∀ (w : World) (o : Nat), Step p L w L (w.setCells b o vs) := by
  induction vs with
  | nil => exact fun w _ => Step.refl p L w
  | cons v r ih => exact fun w o => (Step.setCell L w ⟨b, o, none⟩ v hp).trans (ih _ (o + 1))
theorem Step.alloc {p : Lab → Prop} (L : Labs) (w : World) (o : Obj) : Step p L w L (w.alloc o) := Step.of_below ((Below.refl _ _).alloc (Nat.le_refl _) o)
theorem Step.drew {p : Lab → Prop} (L : Labs) (w : World) : Step p L w L w.drew := ⟨rfl, rfl, rfl, Nat.le_refl _, fun _ _ => rfl, fun _ _ _ => rfl⟩
theorem Step.drewN {p : Lab → Prop} (L : Labs) (w : World) (n : Nat) : Step p L w L (w.drewN n) := ⟨rfl, rfl, rfl, Nat.le_refl _, fun _ _ => rfl, fun _ _ _ => rfl⟩
theorem Step.below {p : Lab → Prop} {L L' : Labs} {w w' : World} (h : Step p L w L' w') {B : Nat} (hB : B ≤ w.heap.size) (hn : ∀ k, k < B → ¬ p (L k)) : Below B w w' := ⟨h.os, h.tape, h.output, h.size, fun k hk => h.block k (by omega) (hn k hk)⟩

/-- A block with its label. -/
def BlkAt (w : World) (L : Labs) (l : Lab) (g : Nat) (cur : Array Value) (e : TypeId) : Prop := Blk w g cur e ∧ L g = l
theorem BlkAt.keep {w w' : World} {L L' : Labs} {l : Lab} {g : Nat} {cur : Array Value} {e : TypeId} (h : BlkAt w L l g cur e) {p : Lab → Prop} (s : Step p L w L' w') (hp : ¬ p l) : BlkAt w' L' l g cur e := by
  obtain ⟨h1, h2⟩ := h
  refine ⟨?_, (s.lab g h1.lt).trans h2⟩
  unfold Blk
  rw [s.block g h1.lt (by rw [h2]; exact hp)]
  exact h1

/-- A row with its label. -/
def RowAt (w : World) (L : Labs) (l : Lab) (e : TypeId) (size : Nat) (v : Value) (n : Nat) (xs : List Value) : Prop := w.ownsRow 0 e size v n xs ∧ ∀ g, v.ownBlock = some g → L g = l
theorem RowAt.keep {w w' : World} {L L' : Labs} {l : Lab} {e : TypeId} {size : Nat} {v : Value} {n : Nat} {xs : List Value} (h : RowAt w L l e size v n xs) {p : Lab → Prop} (s : Step p L w L' w') (hp : ¬ p l) : RowAt w' L' l e size v n xs := by
  obtain ⟨⟨h1, h2⟩, h3⟩ := h
  rcases h2 with ⟨rfl, h2⟩ | ⟨g, cap, cur, rfl, hg, hb, r⟩
  · exact ⟨⟨h1, Or.inl ⟨rfl, h2⟩⟩, fun g hg => by simp [Value.ownBlock] at hg⟩
  · have hlt := (Array.getElem?_eq_some_iff.1 hb).1
    have hl := h3 g (by simp [Value.ownBlock])
    refine ⟨⟨h1, Or.inr ⟨g, cap, cur, rfl, hg, ?_, r⟩⟩, fun g' hg' => ?_⟩
    · rw [s.block g hlt (by rw [hl]; exact hp)]; exact hb
    · obtain rfl : g = g' := by simpa [Value.ownBlock] using hg'
      exact (s.lab g hlt).trans hl
theorem RowAt.nil (w : World) (L : Labs) (l : Lab) (e : TypeId) (size : Nat) : RowAt w L l e size (.slice none 0 0) 0 [] := ⟨World.ownsRow_nil _ _ _ _, fun g hg => by simp [Value.ownBlock] at hg⟩
theorem RowAt.shape {w : World} {L : Labs} {l : Lab} {e : TypeId} {size : Nat} {v : Value} {n : Nat} {xs : List Value} (h : RowAt w L l e size v n xs) : ∃ a cap, v = .slice a n cap ∧ n ≤ maxLen := by
  rcases h.1.2 with ⟨rfl, rfl⟩ | ⟨g, cap, cur, rfl, _, _, h1, h2, _⟩
  · exact ⟨none, 0, rfl, Nat.zero_le _⟩
  · exact ⟨_, _, rfl, Nat.le_trans h1 h2⟩
/-- A row with something in it: where it lies, and each cell. -/
theorem RowAt.head {w : World} {L : Labs} {l : Lab} {e : TypeId} {size : Nat} {a : Option Addr} {k n : Nat} {xs : List Value} (h : RowAt w L l e size (.slice a n k) n xs) (h0 : 0 < n) :
    ∃ g, a = some ⟨g, 0, none⟩ ∧ g < w.heap.size ∧ L g = l ∧ (∀ i v, xs[i]? = some v → w.cell? ⟨g, i, none⟩ = some v) ∧ (∀ i, w.frozen? ⟨g, i, none⟩ = false) := by
  rcases h.1.2 with ⟨_, h1⟩ | ⟨g, cap, cur, h1, h2, h3, h4, h5, h6, h7⟩
  · omega
  · simp only [Value.slice.injEq, true_and] at h1
    obtain ⟨rfl, rfl⟩ := h1
    have hb : Blk w g cur e := h3
    refine ⟨g, rfl, hb.lt, h.2 g (by simp [Value.ownBlock]), fun i v hv => ?_, fun i => hb.frozen i⟩
    rw [hb.cell i]
    rw [← h7] at hv
    have hi : i < n * size := by
      have := (List.getElem?_eq_some_iff.1 hv).1
      rw [List.length_take] at this; omega
    rw [List.getElem?_take_of_lt hi] at hv
    simpa using hv
/-- A store into a row. -/
theorem RowAt.set {w : World} {L : Labs} {l : Lab} {e : TypeId} {size g k n : Nat} {xs : List Value} (h : RowAt w L l e size (.slice (some ⟨g, 0, none⟩) n k) n xs) (i : Nat) (u : Value) :
    RowAt (w.setCell ⟨g, i, none⟩ u) L l e size (.slice (some ⟨g, 0, none⟩) n k) n (xs.set i u) := by
  refine ⟨?_, h.2⟩
  obtain ⟨h1, h2⟩ := h.1
  refine ⟨by simpa using h1, ?_⟩
  rcases h2 with ⟨h2, _⟩ | ⟨g', cap, cur, h1', h2, h3, h4, h5, h6, h7⟩
  · cases h2
  · simp only [Value.slice.injEq, true_and, Option.some.injEq, Addr.mk.injEq, and_true] at h1'
    obtain ⟨rfl, rfl⟩ := h1'
    refine Or.inr ⟨g, k, cur.setIfInBounds i u, rfl, h2, heap_setCell_same w g i cur e u h3, h4, h5, by simpa using h6, ?_⟩
    rw [Array.toList_setIfInBounds, List.take_set, h7]
/-- A run of stores into a row. -/
theorem RowAt.setCells {L : Labs} {l : Lab} {e : TypeId} {size g k n : Nat} (vs : List Value) : ∀ {w : World} {xs : List Value} (o : Nat), RowAt w L l e size (.slice (some ⟨g, 0, none⟩) n k) n xs → ∃ ys, RowAt (w.setCells g o vs) L l e size (.slice (some ⟨g, 0, none⟩) n k) n ys ∧ ys = (vs.zipIdx.foldl (fun acc p => acc.set (o + p.2) p.1) xs) := by
  induction vs with
  | nil => exact fun o h => ⟨_, h, rfl⟩
  | cons v r ih =>
    intro w xs o h
    obtain ⟨ys, h1, h2⟩ := ih (o + 1) (h.set o v)
    refine ⟨ys, h1, ?_⟩
    rw [h2, List.zipIdx_cons, List.foldl_cons, List.zipIdx_succ, List.foldl_map]
    simp only [Nat.add_zero, Nat.add_assoc, Nat.add_comm 1]
/-- Behind an append that says where the new row lies. -/
theorem RowAt.appended {w0 w' : World} {L : Labs} {l : Lab} {e : TypeId} {size g cap n m : Nat} {v : Value} {xs ys : List Value} (h : RowAt w0 L l e size v n xs) (hown : w'.ownsRow 0 e size (.slice (some ⟨g, 0, none⟩) m cap) m ys)
    (hat : v.ownBlock = some g ∨ w0.heap.size ≤ g) : RowAt w' (lay L g l) l e size (.slice (some ⟨g, 0, none⟩) m cap) m ys ∧ ∀ k, k < w0.heap.size → lay L g l k = L k := by
  refine ⟨⟨hown, fun g' hg' => ?_⟩, lay_below (hat.imp (fun e => h.2 g e) id)⟩
  obtain rfl : g = g' := by simpa [Value.ownBlock] using hg'
  exact lay_same _ _ _

theorem splice_toList : ∀ (l : List Value) (cs : Array Value) (o : Nat), o + l.length ≤ cs.size → (splice cs o l).toList = cs.toList.take o ++ l ++ cs.toList.drop (o + l.length) := by
  intro l
  induction l with
  | nil => intro cs o _; simp [splice]
  | cons v r ih =>
    intro cs o h
    simp only [splice]
    simp only [List.length_cons] at h
    rw [ih _ _ (by simp; omega)]
    simp only [Array.toList_setIfInBounds, List.length_cons]
    have ho : o < cs.toList.length := by simp; omega
    rw [List.take_succ_eq_append_getElem (by simpa using ho), List.take_set_of_le (Nat.le_refl _), List.drop_set_of_lt (by omega)]
    simp [Nat.add_assoc, Nat.add_comm 1]
theorem splice_size : ∀ (l : List Value) (cs : Array Value) (o : Nat), (splice cs o l).size = cs.size := by
  intro l
  induction l with
  | nil => intro cs o; rfl
  | cons v r ih => intro cs o; simp only [splice]; rw [ih]; simp
theorem splice_take {l : List Value} {cs : Array Value} {o : Nat} (h : o + l.length ≤ cs.size) : (splice cs o l).toList.take (o + l.length) = cs.toList.take o ++ l := by
  rw [splice_toList _ _ _ h, List.take_append_of_le_length (by simp; omega), List.take_of_length_le (by simp; omega)]

/-- A map with its label (a map is known by what ownsMap says of it). -/
def OMapAt {H : Type} (w : World) (L : Labs) (l : Lab) (P : Program) (k : TypeId) (R : Value → Option (DataW H × List MemPlace)) (b n : Nat) (D : DataW H) : Prop := w.ownsMap P k R b n D ∧ L b = l
theorem ownsMap_of_block {H : Type} {w w' : World} {P : Program} {k : TypeId} {R : Value → Option (DataW H × List MemPlace)} {b n : Nat} {D : DataW H} (h : w.ownsMap P k R b n D) (e : w'.heap[b]? = w.heap[b]?) : w'.ownsMap P k R b n D := by
  obtain ⟨es, clock, hb, r⟩ := h
  exact ⟨es, clock, e.trans hb, r⟩
theorem OMapAt.keep {H : Type} {w w' : World} {L L' : Labs} {l : Lab} {P : Program} {k : TypeId} {R : Value → Option (DataW H × List MemPlace)} {b n : Nat} {D : DataW H} (h : OMapAt w L l P k R b n D) {p : Lab → Prop} (s : Step p L w L' w') (hp : ¬ p l) : OMapAt w' L' l P k R b n D :=
  ⟨ownsMap_of_block h.1 (s.block b h.1.lt (by rw [h.2]; exact hp)), (s.lab b h.1.lt).trans h.2⟩

end Go.Proofs.YtojpjaifhjigfaaGreatDoor
