/- Small helpers of whatever program: a fact laid aside, cells that stay, blocks that stay. -/
import Derived.WalkKit
import Derived.WalkSpells
import Derived.WalkLawsBesides
import Derived.Laws.Rows
import Derived.Deep.MidRow
namespace Go.Proofs.YtojpjaifhjigfaaGreatDoor
open Go.RowKit

theorem hide {p : Prop} (h : p) : Hid p := h

theorem bcell {W w1 : World} {B : Nat} (hb : Below B W w1) : (∀ b o, b < B → w1.cell? ⟨b, o, none⟩ = W.cell? ⟨b, o, none⟩) ∧ (∀ b o, b < B → w1.frozen? ⟨b, o, none⟩ = W.frozen? ⟨b, o, none⟩) :=
  ⟨fun b o h => hb.cell (p := ⟨b, o, none⟩) h, fun b o h => hb.frozen (p := ⟨b, o, none⟩) h⟩

theorem ret_bool {a b : Bool} (h : a = b) : Ending.returned (.bool a) = .returned (.bool b) := by rw [h]
theorem ret_int {k : IntKind} {a b : Int} (h : a = b) : Ending.returned (.int k a) = .returned (.int k b) := by rw [h]

/-- A float stored into a cell (the walk's set has the like for a number, a text, a pointer). -/
theorem run_store_float {P : Program} (w : World) (a : Addr) (m : Mode) (k : FloatKind) (n : Nat) : (store a (.float k n) m).run P w = stored P w a (.float k n) m := run_store P w a _ m rfl

/-- Block g is a plain row of these cells. -/
def Blk (w : World) (g : Nat) (cur : Array Value) (e : TypeId) : Prop := w.heap[g]? = some (.cells cur e (0, 0))
theorem Blk.lt {w : World} {g : Nat} {cur : Array Value} {e : TypeId} (h : Blk w g cur e) : g < w.heap.size := (Array.getElem?_eq_some_iff.1 h).1
theorem Blk.cell {w : World} {g : Nat} {cur : Array Value} {e : TypeId} (h : Blk w g cur e) (k : Nat) : w.cell? ⟨g, k, none⟩ = cur[k]? := by
  unfold Blk at h; simp [World.cell?, h]
theorem Blk.frozen {w : World} {g : Nat} {cur : Array Value} {e : TypeId} (h : Blk w g cur e) (k : Nat) : w.frozen? ⟨g, k, none⟩ = false := by
  unfold Blk at h; simp [World.frozen?, h]
theorem Blk.set {w : World} {g : Nat} {cur : Array Value} {e : TypeId} (h : Blk w g cur e) (i : Nat) (v : Value) : Blk (w.setCell ⟨g, i, none⟩ v) g (cur.setIfInBounds i v) e :=
  heap_setCell_same w g i cur e v h
theorem Blk.other {w : World} {g : Nat} {cur : Array Value} {e : TypeId} (h : Blk w g cur e) (a : Addr) (v : Value) (hne : g ≠ a.block) : Blk (w.setCell a v) g cur e := by
  unfold Blk; rw [heap_setCell_other w a g v hne]; exact h
theorem Blk.below {w w' : World} {g : Nat} {cur : Array Value} {e : TypeId} (h : Blk w g cur e) {B : Nat} (hb : Below B w w') (hB : g < B) : Blk w' g cur e := by
  unfold Blk; rw [hb.block g hB]; exact h
theorem Blk.alloc {w : World} {g : Nat} {cur : Array Value} {e : TypeId} (h : Blk w g cur e) (o : Obj) : Blk (w.alloc o) g cur e := h.below ((Below.refl w.heap.size w).alloc (Nat.le_refl _) o) h.lt
theorem Blk.grown {w w' : World} {g : Nat} {cur : Array Value} {e : TypeId} (h : Blk w g cur e) {row : Option Nat} (hg : w.grownBy w' row) (hne : some g ≠ row) : Blk w' g cur e := by
  unfold Blk; rw [hg.block g h.lt hne]; exact h
theorem Blk.new (w : World) (cs : Array Value) (t : TypeId) : Blk (w.alloc (.cells cs t)) w.heap.size cs t := by
  show (w.heap.push _)[w.heap.size]? = _
  simp
theorem Blk.made {V : World} {n : Nat} (h : V.heap.size = n) (cs : Array Value) (t : TypeId) : Blk (V.alloc (.cells cs t)) n cs t := h ▸ Blk.new V cs t
theorem Blk.drewN {w : World} {g : Nat} {cur : Array Value} {e : TypeId} (h : Blk w g cur e) (n : Nat) : Blk (w.drewN n) g cur e := h

/-- A result that lies in memory. -/
theorem results_cell1 {P : Program} {fn : Func} {p : Tmp} {ty : TypeId} {tmps : Array Value} {w : World} {a : Addr} {v : Value} (h : fn.results = #[.cell p ty]) (hp : tmps.getD p undef = .pointer (some a))
    (hl : (loadVar ty a).run P w = .ok v w) : (results fn tmps).run P w = .ok v w := by
  rw [Array.getD_eq_getD_getElem?] at hp
  simp only [results, h]
  simp [asAddr, hp, hl]

/-- A row of cells with these laid into it from o on. -/
def splice (cur : Array Value) (o : Nat) (vs : List Value) : Array Value := match vs with
  | [] => cur
  | v :: r => splice (cur.setIfInBounds o v) (o + 1) r
theorem Blk.setCells {g : Nat} {e : TypeId} (vs : List Value) : ∀ {w : World} {cur : Array Value} (o : Nat), Blk w g cur e → Blk (w.setCells g o vs) g (splice cur o vs) e := by
  induction vs with
  | nil => exact fun _ h => h
  | cons v r ih => exact fun o h => ih (o + 1) (h.set o v)
theorem Blk.setCellsOther {g : Nat} {e : TypeId} {b : Nat} (hne : g ≠ b) (vs : List Value) : ∀ {w : World} {cur : Array Value} (o : Nat), Blk w g cur e → Blk (w.setCells b o vs) g cur e := by
  induction vs with
  | nil => exact fun _ h => h
  | cons v r ih => exact fun o h => ih (o + 1) (h.other _ v hne)
theorem below_setCells {B b : Nat} {a : World} (hB : B ≤ b) (vs : List Value) : ∀ {w : World} (o : Nat), Below B a w → Below B a (w.setCells b o vs) := by
  induction vs with
  | nil => exact fun _ h => h
  | cons v r ih => exact fun o h => ih (o + 1) (h.setCell hB v)
theorem size_setCells {b : Nat} (vs : List Value) : ∀ {w : World} (o : Nat), (w.setCells b o vs).heap.size = w.heap.size := by
  induction vs with
  | nil => exact fun _ => rfl
  | cons v r ih => exact fun o => (ih (o + 1)).trans (by simp [World.setCell])
theorem heap_setCells {b : Nat} (vs : List Value) : ∀ {w : World} (o : Nat) {k : Nat}, k ≠ b → (w.setCells b o vs).heap[k]? = w.heap[k]? := by
  induction vs with
  | nil => exact fun _ _ _ => rfl
  | cons v r ih => exact fun o k hk => (ih (o + 1) hk).trans (heap_setCell_other _ _ _ _ hk)
theorem Blk.range {w : World} {g : Nat} {cur : Array Value} {e : TypeId} (h : Blk w g cur e) (o : Nat) (cs : List Value) (hcs : (cur.toList.drop o).take cs.length = cs) : w.rangeAt g o cs := fun j v hv => by
  rw [h.cell]
  rw [← hcs] at hv
  have hj : j < cs.length := by
    have := (List.getElem?_eq_some_iff.1 hv).1
    rw [List.length_take] at this
    omega
  rw [List.getElem?_take_of_lt hj, List.getElem?_drop] at hv
  simpa using hv
theorem Blk.there {w : World} {g : Nat} {cur : Array Value} {e : TypeId} (h : Blk w g cur e) (o n : Nat) (hle : o + n ≤ cur.size) : w.there g o n := fun j hj => by
  refine ⟨?_, h.frozen _⟩
  rw [h.cell, Array.getElem?_eq_getElem (by omega)]
  rfl

end Go.Proofs.YtojpjaifhjigfaaGreatDoor
