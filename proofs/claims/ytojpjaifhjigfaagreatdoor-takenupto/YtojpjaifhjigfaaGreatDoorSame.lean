/- sameMaps: of two maps that read alike the answer is true. -/
import Derived.Test.YtojpjaifhjigfaaGreatDoorGood
namespace Go.Proofs.YtojpjaifhjigfaaGreatDoor
open Go.RowKit Go.Maps

set_option maxHeartbeats 400000 in
theorem same_nil (c : Cfg) (w : World) : Calls Tryz.prog 42 #[.map none, c.val none] w fun e w' => e = .returned (.bool true) ∧ Below w.heap.size w w' := by
  have hlen := fun (W : World) ty => Maps.len_nil (P := Tryz.prog) (w := W) (k := 9) (t := 22) (e := 3) Tryz.underlying22 ty
  have hrg := run_range_nilMap (P := Tryz.prog) (w.alloc (.cells (c.cells none) 25)) 22 9 3 Tryz.underlying22
  have hnx : ∀ ty, (Instr.next (.pointer (some ⟨(w.alloc (.cells (c.cells none) 25)).heap.size, 0, none⟩)) false ty).run Tryz.prog ((w.alloc (.cells (c.cells none) 25)).alloc (.mapIter none 0 #[] 0)) = _ := fun ty => run_next_nilMap _ ty 0 0 #[]
  rw [World.size_alloc] at hrg hnx
  go_enter Tryz.func42, Tryz.ntmps42
  go_wp2
  refine wp_loop_rounds 1 ?_
  rw [rounds_succ]
  go_wp2
  go_ret
  exact ⟨rfl, ((Below.refl _ _).alloc (Nat.le_refl _) _).alloc (by simp) _⟩

set_option maxRecDepth 100000 in
set_option maxHeartbeats 1000000 in
theorem same_some (c : Cfg) (b1 b2 n1 n2 : Nat) (D : DataW Unit) (w : World) (h1 : OM w b1 n1 D) (h2 : OM w b2 n2 D) :
    Calls Tryz.prog 42 #[.map (some b1), c.val (some b2)] w fun e w' => e = .returned (.bool true) ∧ Below w.heap.size w w' := by
  have H1 := hide h1
  have H2 := hide h2
  have hl1 := h1.lt
  have hl2 := h2.lt
  have k1 := h1.alloc (.cells (c.cells (some b2)) 25)
  have k2 := h2.alloc (.cells (c.cells (some b2)) 25)
  go_enter Tryz.func42, Tryz.ntmps42
  go_wp2_with (first
    | (at_len; refine wpList_len_own _ rfl _ 22 rfl 9 3 Tryz.underlying22 _ b1 n1 _ rfl k1 ?_)
    | (at_len; refine wpList_len_own _ rfl _ 22 rfl 9 3 Tryz.underlying22 _ b2 n2 _ rfl k2 ?_)
    | (at_range; refine wpList_range_own _ rfl _ 22 rfl 9 3 lawS Tryz.underlying22 _ b2 n2 _ rfl k2 ?_; intro w0 hrg0 hg0 hs0)
    | fail)
  go_frame
  simp only [World.size_alloc] at hrg0 ⊢
  have hb0 : Below w.heap.size w w0 := ((Below.refl _ _).alloc (Nat.le_refl _) _).grown hg0 (by simp) (fun j hj => by cases hj)
  have Hb0 := hide hb0
  clear hb0 hg0 hs0 k1 k2 h1 h2
  go_loopw [5] (fun _ wr => ∃ (left : Lit → Bool) (cnt : Nat), RG wr b2 (w.heap.size + 1) n2 D left cnt ∧ Below w.heap.size w wr) (fun _ wr => wr.rangeLeft b2 (w.heap.size + 1))
  case atStart => exact ⟨_, _, hrg0, Hb0.out⟩
  case round =>
    obtain ⟨left, cnt, hrg, hnx⟩ := hrel
    have Hnx := hide hnx
    clear hnx
    go_wp2_with (first
      | (at_next; refine wpList_next_ranges _ rfl _ rfl 9 lawS (plainElem Tryz.prog 3) encStr (Value.int .i64) invK invV b2 (w.heap.size + 1) n2 _ _ _ rfl hrg ?_ ?_)
      | fail)
    · intro hc0 hl0
      clear hl0
      go_wp2_with fail
      go_ret
      exact ⟨rfl, Hnx.out⟩
    · intro x q kl yd yp w2 cnt2 hkey hlk hv hat hrg2 hlt hg2 hs2 hen
      obtain ⟨x', ex, rfl, hxl⟩ := Maps.keyOf_str Tryz.underlying9 hkey
      obtain rfl : x = x' := encStr_inj ex
      obtain ⟨c', ec, ey, _⟩ := plainElem_int_inv Tryz.underlying3 hv
      obtain rfl : q = c' := by simpa using ec
      obtain ⟨rfl, rfl⟩ : yd = .lit (.int .i64 q) ∧ yp = [] := by simpa using ey
      have hAt : At D x q := hat
      have hhas := hAt.has
      have HAt := hide hAt
      have Hb2 : Hid (Below w.heap.size w w2) := Hnx.out.grown hg2 Hnx.out.size (fun j hj => by cases hj; omega)
      have Hrg2 := hide hrg2
      have HM : Hid (cnt2 < wr.rangeLeft b2 (w.heap.size + 1)) := by rw [hrg.left_eq]; exact hlt
      have hown1 : OM w2 b1 n1 D := om_below H1.out Hb2.out hl1
      clear hAt hat hlk hv ex ec ey hs2 hlt hg2 hrg2
      go_wp2_with (first
        | (at_lookup; refine wpList_lookup_own_ok_int _ rfl _ _ 22 rfl 9 3 .i64 lawS Tryz.underlying22 Tryz.underlying3 (zeroInt _) b1 n1 _ rfl hown1 _ _ rfl hkey ?_; intro q' hq' hwq; obtain rfl : q' = q := (by have := hq'.symm.trans (HAt.out (.lit (.int .i64 0))); simpa using this))
        | fail)
      go_roundw
      case rel => exact ⟨_, cnt2, Hrg2.out, Hb2.out⟩
      case measure => rw [Hrg2.out.left_eq]; exact HM.out
end Go.Proofs.YtojpjaifhjigfaaGreatDoor
