/- Rows of structs: which cell is which; and how a store turns them. -/
import Derived.Test.YtojpjaifhjigfaaGreatDoorNewParts
namespace Go.Proofs.YtojpjaifhjigfaaGreatDoor
open Go.RowKit Go.Maps

theorem flat_length {α : Type} (f : α → List Value) (k : Nat) (hk : ∀ a, (f a).length = k) : ∀ l : List α, (l.flatMap f).length = l.length * k
  | [] => by simp
  | a :: l => by rw [List.flatMap_cons, List.length_append, hk, flat_length f k hk l, List.length_cons, Nat.succ_mul, Nat.add_comm]
theorem flat_get {α : Type} (f : α → List Value) (k : Nat) (hk : ∀ a, (f a).length = k) : ∀ (l : List α) (p j : Nat), j < k → (l.flatMap f)[p * k + j]? = (l[p]?).bind fun a => (f a)[j]?
  | [], p, j, hj => by simp
  | a :: l, 0, j, hj => by
    rw [List.flatMap_cons, Nat.zero_mul, Nat.zero_add, List.getElem?_append_left (by rw [hk]; exact hj)]
    rfl
  | a :: l, p + 1, j, hj => by
    rw [List.flatMap_cons, List.getElem?_append_right (by rw [hk, Nat.succ_mul]; omega), hk, Nat.succ_mul]
    have e : p * k + k + j - k = p * k + j := by omega
    rw [e, flat_get f k hk l p j hj]
    simp
theorem flat_cell {α : Type} (f : α → List Value) (k : Nat) (hk : ∀ a, (f a).length = k) {l : List α} {p j : Nat} {a : α} {v : Value} (hp : l[p]? = some a) (hj : j < k) (hv : (f a)[j]? = some v) : (l.flatMap f)[p * k + j]? = some v := by
  rw [flat_get f k hk l p j hj, hp]; exact hv
theorem flat_set {α : Type} (f : α → List Value) (k : Nat) (hk : ∀ a, (f a).length = k) : ∀ (l : List α) (p j : Nat) (a a' : α) (v : Value), j < k → l[p]? = some a → f a' = (f a).set j v → (l.flatMap f).set (p * k + j) v = (l.set p a').flatMap f
  | [], p, j, a, a', v, hj, h, _ => by simp at h
  | b :: l, 0, j, a, a', v, hj, h, e => by
    simp only [List.getElem?_cons_zero, Option.some.injEq] at h
    subst h
    rw [List.flatMap_cons, Nat.zero_mul, Nat.zero_add, List.set_append_left _ _ (by rw [hk]; exact hj), List.set_cons_zero, List.flatMap_cons, e]
  | b :: l, p + 1, j, a, a', v, hj, h, e => by
    simp only [List.getElem?_cons_succ] at h
    rw [List.flatMap_cons, List.set_append_right _ _ (by rw [hk, Nat.succ_mul]; omega), hk, Nat.succ_mul, List.set_cons_succ, List.flatMap_cons]
    have e2 : p * k + k + j - k = p * k + j := by omega
    rw [e2, flat_set f k hk l p j a a' v hj h e]

theorem ints_get {l : List Nat} {p n : Nat} (h : l[p]? = some n) : (ints l)[p]? = some (.int .i64 (n : Int)) := by simp [ints, h]
theorem strs_get {l : List (List UInt8)} {p : Nat} {s : List UInt8} (h : l[p]? = some s) : (l.map encStr)[p]? = some (encStr s) := by simp [h]

/-- The first k of a row are filled, the rest is as it was made. -/
def filled (xs : List Value) (z : Value) (k : Nat) : List Value := xs.take k ++ List.replicate (xs.length - k) z
theorem filled_zero (xs : List Value) (z : Value) : filled xs z 0 = List.replicate xs.length z := by simp [filled]
theorem filled_all (xs : List Value) (z : Value) : filled xs z xs.length = xs := by simp [filled]
theorem filled_set (xs : List Value) (z : Value) (k : Nat) (v : Value) (h : xs[k]? = some v) : (filled xs z k).set k v = filled xs z (k + 1) := by
  have hk : k < xs.length := (List.getElem?_eq_some_iff.1 h).1
  have hv : xs[k] = v := (List.getElem?_eq_some_iff.1 h).2
  apply List.ext_getElem?
  intro i
  unfold filled
  rw [List.getElem?_set]
  by_cases e : k = i
  · subst e
    rw [if_pos rfl, if_pos (by simp; omega), List.getElem?_append_left (by simp; omega), List.getElem?_take_of_lt (by omega), h]
  · rw [if_neg e]
    by_cases h1 : i < k
    · rw [List.getElem?_append_left (by simp; omega), List.getElem?_append_left (by simp; omega), List.getElem?_take_of_lt h1, List.getElem?_take_of_lt (by omega)]
    · rw [List.getElem?_append_right (by simp; omega), List.getElem?_append_right (by simp; omega), List.getElem?_replicate, List.getElem?_replicate]
      simp only [List.length_take]
      congr 1
      simp
      omega
end Go.Proofs.YtojpjaifhjigfaaGreatDoor
