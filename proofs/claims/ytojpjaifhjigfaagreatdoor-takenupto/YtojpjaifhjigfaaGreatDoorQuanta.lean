/- The map of quanta: what the program's areQuanta answers. -/
import Derived.Test.YtojpjaifhjigfaaGreatDoorCfg
import Derived.Maps.RangeWalk
import Derived.Maps.Ext
import Derived.Maps.OwnSet
import Derived.Maps.OwnOps
import Derived.Sort.KeysCollected
namespace Go.Proofs.YtojpjaifhjigfaaGreatDoor
open Go.RowKit Go.Maps

/-- Block b is a map from texts to numbers, of at most n entries, that reads as D. -/
abbrev OM (w : World) (b n : Nat) (D : DataW Unit) : Prop := w.ownsMap Tryz.prog 9 (plainElem Tryz.prog 3) b n D
abbrev RG (w : World) (b r n : Nat) (D : DataW Unit) (left : Lit → Bool) (cnt : Nat) : Prop := w.ranges Tryz.prog 9 (plainElem Tryz.prog 3) b r n D left cnt

theorem lawS : Keyed Tryz.prog 9 := string_keyed Tryz.underlying9
theorem zeroInt (w : World) : (zeroValue 3).run Tryz.prog w = .ok (.int .i64 0) w := by kernel_rfl

theorem invK (key : Value) (kl : Lit) (hk : keyOf Tryz.prog 9 key = some kl) : ∃ x, key = encStr x := by
  obtain ⟨x, hx, _⟩ := Maps.keyOf_str Tryz.underlying9 hk; exact ⟨x, hx⟩
theorem invV (v : Value) (y : DataW Unit × List MemPlace) (hv : plainElem Tryz.prog 3 v = some y) : ∃ c, v = .int .i64 c := by
  obtain ⟨c, rfl, _⟩ := plainElem_int_inv Tryz.underlying3 hv; exact ⟨c, rfl⟩

/-- One entry keeps its bounds. -/
def okKV (x : List UInt8) (c : Int) : Bool := inB x.length 1 16 && inB c 64 1000
/-- At the key x stands c. -/
def At (D : DataW Unit) (x : List UInt8) (c : Int) : Prop := ∀ zd, D.atKey (.string x) zd = .lit (.int .i64 c)
def GoodQ (D : DataW Unit) : Prop := (1 ≤ Maps.size D ∧ Maps.size D ≤ 8) ∧ ∀ x c, At D x c → okKV x c = true

theorem At.has {D : DataW Unit} {x : List UInt8} {c : Int} (h : At D x c) : Maps.has D (.string x) = true := has_true_of_atKey h
theorem At.eq {D : DataW Unit} {x : List UInt8} {c c' : Int} (h : At D x c) (h' : At D x c') : c = c' := by
  have := (h .nil).symm.trans (h' .nil)
  simpa using this

/-- What was seen of the entries so far keeps its bounds. -/
def SeenOk (D : DataW Unit) (left : Lit → Bool) : Prop := ∀ x c, At D x c → left (.string x) = false → okKV x c = true
theorem SeenOk.start (D : DataW Unit) : SeenOk D (Maps.has D) := fun x c h hl => by rw [h.has] at hl; cases hl
theorem SeenOk.step {D : DataW Unit} {left : Lit → Bool} (h : SeenOk D left) {x : List UInt8} {c : Int} (hat : At D x c) (hok : okKV x c = true) : SeenOk D (fun z => left z && !z.sameKey (.string x)) := by
  intro x' c' h' hl
  simp only [Bool.and_eq_false_iff, Bool.not_eq_false'] at hl
  rcases hl with hl | hl
  · exact h x' c' h' hl
  · have e : x' = x := by simpa [Lit.sameKey] using hl
    subst e
    rw [h'.eq hat]; exact hok

theorem om_below {w w' : World} {b n : Nat} {D : DataW Unit} (h : OM w b n D) {B : Nat} (hb : Below B w w') (hlt : b < B) : OM w' b n D := by
  obtain ⟨es, clock, h1, h2⟩ := h
  exact ⟨es, clock, by rw [hb.block b hlt]; exact h1, h2⟩
theorem rg_below {w w' : World} {b r n : Nat} {D : DataW Unit} {left : Lit → Bool} {cnt : Nat} (h : RG w b r n D left cnt) (hb : Below w.heap.size w w') : RG w' b r n D left cnt := by
  have h1 := h.owns.lt
  have h2 := h.lt
  obtain ⟨es, clock, since, seen, c0, k1, k2, k3, k4, k5, k6⟩ := h
  exact ⟨es, clock, since, seen, c0, by rw [hb.block b h1]; exact k1, k2, k3, k4, by rw [hb.block r h2]; exact k5, k6⟩

set_option maxHeartbeats 400000 in
theorem areQuanta_nil (w : World) : Calls Tryz.prog 96 #[.map none] w fun e w' => e = .returned (.bool false) ∧ Below w.heap.size w w' := by
  have hlen := fun ty => Maps.len_nil (P := Tryz.prog) (w := w) (k := 9) (t := 22) (e := 3) Tryz.underlying22 ty
  go_enter Tryz.func96, Tryz.ntmps96
  go_wp2_with fail
  refine (holds_any _ _ _ _).mono ?_
  rintro e w1 ⟨rfl, hb1⟩
  have h0 : inB 0 1 8 = false := by decide
  go_wp2_with fail
  go_ret
  exact ⟨rfl, ((Below.refl _ _).alloc (Nat.le_refl _) _).trans (hb1.mono (by simp))⟩

set_option maxHeartbeats 400000 in
theorem areQuanta_some (b n : Nat) (D : DataW Unit) (w : World) (hown : OM w b n D) : Calls Tryz.prog 96 #[.map (some b)] w fun e w' => ∃ r, e = .returned (.bool r) ∧ (r = true ↔ GoodQ D) ∧ Below w.heap.size w w' := by
  have hbl := hown.lt
  have HO := hide hown
  go_enter Tryz.func96, Tryz.ntmps96
  go_wp2_with (first
    | (at_len; refine wpList_len_own _ rfl _ 22 rfl 9 3 Tryz.underlying22 _ b n _ rfl hown ?_)
    | fail)
  refine (holds_any _ _ _ _).mono ?_
  rintro e w1 ⟨rfl, hb1⟩
  cases hs : inB (Maps.size D) 1 8
  · have hng : ¬ GoodQ D := fun h => by
      have := h.1
      simp [inB] at hs
      omega
    have HN := hide hng
    clear hng
    go_wp2_with fail
    go_ret
    exact ⟨false, rfl, by simp [HN.out], ((Below.refl _ _).alloc (Nat.le_refl _) _).trans (hb1.mono (by simp))⟩
  have hsz : 1 ≤ Maps.size D ∧ Maps.size D ≤ 8 := by simp [inB] at hs; omega
  have HS := hide hsz
  clear hsz
  have hB1 : Below w.heap.size w w1 := ((Below.refl _ _).alloc (Nat.le_refl _) _).trans (hb1.mono (by simp))
  have hown1 : OM w1 b n D := om_below hown hB1 hbl
  have HB1 := hide hB1
  clear hown hB1
  go_wp2_with (first
    | (at_range; refine wpList_range_own _ rfl _ 22 rfl 9 3 lawS Tryz.underlying22 _ b n _ rfl hown1 ?_; intro w0 hrg0 hg0 hs0)
    | fail)
  go_frame
  have hB0 : Below w.heap.size w w0 := HB1.out.grown hg0 HB1.out.size (fun j hj => by cases hj)
  have HB0 := hide hB0
  have hr : w.heap.size ≤ w1.heap.size := HB1.out.size
  clear hB0 hs0 hg0 hb1 hown1
  go_loopw [4] (fun _ wr => ∃ (left : Lit → Bool) (cnt : Nat), RG wr b w1.heap.size n D left cnt ∧ SeenOk D left ∧ Below w.heap.size w wr) (fun _ wr => wr.rangeLeft b w1.heap.size)
  case atStart => exact ⟨_, _, hrg0, SeenOk.start D, HB0.out⟩
  case round =>
    obtain ⟨left, cnt, hrg, hseen, hnx⟩ := hrel
    have Hseen := hide hseen
    have Hnx := hide hnx
    clear hseen hnx
    go_wp2_with (first
      | (at_next; refine wpList_next_ranges _ rfl _ rfl 9 lawS (plainElem Tryz.prog 3) encStr (Value.int .i64) invK invV b w1.heap.size n _ _ _ rfl hrg ?_ ?_)
      | fail)
    · intro hc0 hl0
      have hg : GoodQ D := ⟨HS.out, fun x c h => Hseen.out x c h (hl0 _)⟩
      have HG := hide hg
      clear hg hl0
      go_wp2_with fail
      go_ret
      exact ⟨true, rfl, by simp [HG.out], Hnx.out⟩
    · intro x c kl yd yp w2 cnt2 hkey hlk hv hat hrg2 hlt hg2 hs2 hen
      obtain ⟨x', ex, rfl, hxl⟩ := Maps.keyOf_str Tryz.underlying9 hkey
      obtain rfl : x = x' := encStr_inj ex
      obtain ⟨c', ec, ey, _⟩ := plainElem_int_inv Tryz.underlying3 hv
      obtain rfl : c = c' := by simpa using ec
      obtain ⟨rfl, rfl⟩ : yd = .lit (.int .i64 c) ∧ yp = [] := by simpa using ey
      have hAt : At D x c := hat
      have HAt := hide hAt
      have Hlt := hide hlt
      have Hb2 : Hid (Below w.heap.size w w2) := Hnx.out.grown hg2 Hnx.out.size (fun j hj => by cases hj; exact hr)
      have Hz2 := hide hs2
      clear hAt hat hkey hlk hv ex ec ey hs2 hlt hg2
      go_wp2_with fail
      refine (holds_any _ _ _ _).mono ?_
      rintro e w3 ⟨rfl, hb3⟩
      have hle2 : w.heap.size ≤ w2.heap.size := Hb2.out.size
      have hb3' : Below w.heap.size w w3 := ((Hb2.out.alloc hle2 _).alloc (by simp; omega) _).trans (hb3.mono (by simp; omega))
      have hrg3 : RG w3 b w1.heap.size n D (fun z => left z && !z.sameKey (.string x)) cnt2 := by
        have h4 := (hrg2.alloc (Obj.cells #[Value.int IntKind.i64 ↑x.length, Value.int IntKind.i64 1, Value.int IntKind.i64 16] 130)).alloc (Obj.cells #[Value.int IntKind.i64 c, Value.int IntKind.i64 64, Value.int IntKind.i64 1000] 130)
        exact rg_below h4 hb3
      obtain ⟨hc3, hf3⟩ := bcell hb3
      simp only [World.size_alloc] at hc3 hf3
      have Hb3 := hide hb3'
      have Hrg3 := hide hrg3
      have Hk := hide hb3
      clear hb3' hrg3 hb3 hrg2 hen hf3
      cases h1 : inB x.length 1 16
      · have hng : ¬ GoodQ D := fun h => by
          have := h.2 x c HAt.out
          simp [okKV, h1] at this
        have HN := hide hng
        clear hng
        go_wp2_with fail
        go_ret
        exact ⟨false, rfl, by simp [HN.out], Hb3.out⟩
      · go_wp2_with fail
        refine (holds_any _ _ _ _).mono ?_
        rintro e w4 ⟨rfl, hb4⟩
        have Hb4 : Hid (Below w.heap.size w w4) := Hb3.out.trans (hb4.mono Hb3.out.size)
        have Hrg4 := hide (rg_below Hrg3.out hb4)
        clear hb4 hc3
        cases h2 : inB c 64 1000
        · have hng : ¬ GoodQ D := fun h => by
            have := h.2 x c HAt.out
            simp [okKV, h2] at this
          have HN := hide hng
          clear hng
          go_wp2_with fail
          go_ret
          exact ⟨false, rfl, by simp [HN.out], Hb4.out⟩
        · go_wp2_with fail
          go_roundw
          case rel => exact ⟨_, cnt2, Hrg4.out, Hseen.out.step HAt.out (by simp [okKV, h1, h2]), Hb4.out⟩
          case measure => rw [Hrg4.out.left_eq, hrg.left_eq]; exact Hlt.out
end Go.Proofs.YtojpjaifhjigfaaGreatDoor
