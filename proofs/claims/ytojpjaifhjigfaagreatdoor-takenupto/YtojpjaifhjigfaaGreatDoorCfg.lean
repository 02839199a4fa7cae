/- Configurations: the numbers and the threshold, as the program and the document's answer ask them. -/
import Derived.Test.YtojpjaifhjigfaaGreatDoorProg
import Derived.Test.YtojpjaifhjigfaaGreatDoorBase
import Derived.WalkKit
import Derived.WalkSpells
import Derived.WalkLawsBesides
import Derived.Deep.QuietTactic
import Derived.BigQuiet
import Derived.Outline
namespace Go.Proofs.YtojpjaifhjigfaaGreatDoor
open Go.RowKit

/-- A configuration's fields but its map. -/
structure Cfg where
  d : Int
  q : Int
  at' : Int
  ba : Int
  ca : Int
  ti : Int
  wi : Int
  le : Int
  th : Nat
  op : Int

abbrev Cfg.cells (c : Cfg) (m : Option Nat) : Array Value := #[.int .i64 c.d, .map m, .int .i64 c.q, .int .i64 c.at', .int .i64 c.ba, .int .i64 c.ca, .int .i64 c.ti, .int .i64 c.wi, .int .i64 c.le, .float .f64 c.th, .int .i64 c.op]
abbrev Cfg.val (c : Cfg) (m : Option Nat) : Value := .agg (c.cells m)

def inB (v l m : Int) : Bool := decide (l ≤ v) && decide (v ≤ m)

set_option maxHeartbeats 400000 in
theorem holds_any (v l m : Int) (w : World) : Calls Tryz.prog 67 #[.agg #[.int .i64 v, .int .i64 l, .int .i64 m]] w fun e w' => e = .returned (.bool (inB v l m)) ∧ Below w.heap.size w w' := by
  by_cases h : l ≤ v
  all_goals
    go_enter Tryz.func67, Tryz.ntmps67
    go_wp2
    go_ret
    exact ⟨by simp [inB, h]; try omega, (Below.refl _ _).alloc (Nat.le_refl _) _⟩

/-- Above 0 and not above 1, as float64. -/
def thB (t : Nat) : Bool := (FloatKind.f64.format.order t 0 == some .gt) && (FloatKind.f64.format.order t 4607182418800017408 == some .lt || FloatKind.f64.format.order t 4607182418800017408 == some .eq)

set_option maxHeartbeats 400000 in
theorem isThreshold_any (t : Nat) (w : World) : Calls Tryz.prog 97 #[.float .f64 t] w fun e w' => e = .returned (.bool (thB t)) ∧ w' = w := by
  by_cases h : (FloatKind.f64.format.order t 0 == some .gt) = true
  all_goals
    go_enter Tryz.func97, Tryz.ntmps97
    go_wp2
    go_ret
    exact ⟨by simp [thB, h], rfl⟩

/-- The nine numbers and their bounds, as areNumbers lists them. -/
def Cfg.nums (c : Cfg) : List (Int × Int × Int) := [(c.d, 1, 4), (c.q, 1, 120), (c.at', 1, 10), (c.ca, 1, 60000), (c.ba, 1, c.ca), (c.ti, 1, 60000), (c.op, 1, 60000), (c.wi, 1, 64), (c.le, 1, c.wi)]
def Cfg.numB (c : Cfg) : Bool := c.nums.all fun x => inB x.1 x.2.1 x.2.2
theorem Cfg.num_d {c : Cfg} (h : c.numB = true) : 1 ≤ c.d ∧ c.d ≤ 4 := by
  have := List.all_eq_true.1 h (c.d, 1, 4) (by simp [Cfg.nums])
  simpa [inB] using this

set_option maxHeartbeats 400000 in
theorem areNumbers_any (c : Cfg) (m : Option Nat) (w : World) : Calls Tryz.prog 95 #[c.val m] w fun e w' => e = .returned (.bool c.numB) ∧ Below w.heap.size w w' := by
  go_enter Tryz.func95, Tryz.ntmps95
  go_wp2_with fail
  generalize hW : ((w.alloc (Obj.cells (c.cells m) 25)).alloc _) = W
  have hB : Below w.heap.size w W := by rw [← hW]; exact ((Below.refl _ _).alloc (Nat.le_refl _) _).alloc (by simp) _
  have hsz : W.heap.size = w.heap.size + 2 := by rw [← hW]; simp
  have hc : ∀ k (h : k < 9), W.cell? ⟨w.heap.size + 1, k * 3, none⟩ = some (.int .i64 (c.nums[k]'h).1) ∧ W.cell? ⟨w.heap.size + 1, k * 3 + 1, none⟩ = some (.int .i64 (c.nums[k]'h).2.1) ∧ W.cell? ⟨w.heap.size + 1, k * 3 + 2, none⟩ = some (.int .i64 (c.nums[k]'h).2.2) := by
    rw [← hW]
    intro k h
    rw [World.cell?_alloc_at _ _ _ _ (by simp), World.cell?_alloc_at _ _ _ _ (by simp), World.cell?_alloc_at _ _ _ _ (by simp)]
    match k, h with
    | 0, _ => exact ⟨rfl, rfl, rfl⟩
    | 1, _ => exact ⟨rfl, rfl, rfl⟩
    | 2, _ => exact ⟨rfl, rfl, rfl⟩
    | 3, _ => exact ⟨rfl, rfl, rfl⟩
    | 4, _ => exact ⟨rfl, rfl, rfl⟩
    | 5, _ => exact ⟨rfl, rfl, rfl⟩
    | 6, _ => exact ⟨rfl, rfl, rfl⟩
    | 7, _ => exact ⟨rfl, rfl, rfl⟩
    | 8, _ => exact ⟨rfl, rfl, rfl⟩
  clear hW
  have HB : Hid (Below w.heap.size w W) := hB
  have HC := hide hc
  clear hB hc
  go_loopw [38] (fun i wr => ∃ k : Nat, k ≤ 9 ∧ i = .int .i64 k ∧ (c.nums.take k).all (fun x => inB x.1 x.2.1 x.2.2) = true ∧ Below (w.heap.size + 2) W wr) (fun i _ => 9 - (intOf i).toNat)
  case atStart => exact ⟨0, by omega, rfl, rfl, Below.refl _ _⟩
  case round =>
    obtain ⟨k, hk, rfl, hall, hb⟩ := hrel
    have Hall := hide hall
    clear hall
    by_cases hlt : k < 9
    · have hltI : (k : Int) < 9 := by omega
      obtain ⟨h0, h1, h2⟩ := HC.out k hlt
      rw [← hb.cell (p := ⟨w.heap.size + 1, _, none⟩) (by simp)] at h0 h1 h2
      go_wp2_with fail
      refine (holds_any _ _ _ _).mono ?_
      rintro e w1 ⟨rfl, hb1⟩
      have hW2 : w.heap.size + 2 ≤ wr.heap.size := by have := hb.size; omega
      have hb2 : Below (w.heap.size + 2) W w1 := (hb.alloc hW2 _).trans (hb1.mono (by simp; omega))
      have hn : c.nums[k]? = some (c.nums[k]'hlt) := List.getElem?_eq_getElem hlt
      have hta : (c.nums.take (k + 1)).all (fun x => inB x.1 x.2.1 x.2.2) = inB (c.nums[k]'hlt).1 (c.nums[k]'hlt).2.1 (c.nums[k]'hlt).2.2 := by
        rw [List.take_succ_eq_append_getElem hlt, List.all_append, Hall.out]; simp
      have HT := hide hta
      clear hta hn
      cases hin : inB (c.nums[k]'hlt).1 (c.nums[k]'hlt).2.1 (c.nums[k]'hlt).2.2
      · have hfin : c.numB = false := by
          rw [hin] at HT
          unfold Cfg.numB
          cases hq : c.nums.all (fun x => inB x.1 x.2.1 x.2.2) with
          | false => rfl
          | true =>
            have := HT.out
            rw [List.all_eq_true] at hq
            rw [List.all_eq_false] at this
            obtain ⟨x, hx, hx2⟩ := this
            exact absurd (hq x (List.mem_of_mem_take hx)) hx2
        have HF := hide hfin
        clear hfin
        go_wp2_with fail
        go_ret
        exact ⟨ret_bool HF.out.symm, HB.out.trans (hb2.mono (by omega))⟩
      · go_wp2_with fail
        go_roundw
        case rel => exact ⟨k + 1, by omega, by go_num, by rw [HT.out, hin], hb2⟩
        case measure => simp [intOf]; omega
    · have h9 : k = 9 := by omega
      go_wp2_with fail
      go_ret
      exact ⟨ret_bool (by rw [h9] at Hall; exact Hall.out.symm), HB.out.trans (hb.mono (by omega))⟩

end Go.Proofs.YtojpjaifhjigfaaGreatDoor
