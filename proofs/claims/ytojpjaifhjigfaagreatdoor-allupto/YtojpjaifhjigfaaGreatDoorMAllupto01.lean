/- Steps of the proof (several texts in one): Base, Cfg, Quanta, IsConfig, RefNames. -/
import Derived.WalkKit
import Derived.WalkSpells
import Derived.WalkLawsBesides
import Derived.Laws.Rows
import Derived.Deep.MidRow
import Derived.Test.YtojpjaifhjigfaaGreatDoorProg
import Derived.Deep.QuietTactic
import Derived.BigQuiet
import Derived.Outline
import Derived.Maps.RangeWalk
import Derived.Maps.Ext
import Derived.Maps.OwnSet
import Derived.Maps.OwnOps
import Derived.Sort.KeysCollected
import Derived.Sort.OwnSorted
import Derived.Sort.Walk0
import Derived.Deep.AppendLies

/- Small helpers of whatever program: a fact laid aside, cells that stay, blocks that stay. -/
namespace Go.Proofs.YtojpjaifhjigfaaGreatDoor
open Go.RowKit

theorem hide {p : Prop} (h : p) : Hid p := h

theorem bcell {W w1 : World} {B : Nat} (hb : Below B W w1) : (∀ b o, b < B → w1.cell? ⟨b, o, none⟩ = W.cell? ⟨b, o, none⟩) ∧ (∀ b o, b < B → w1.frozen? ⟨b, o, none⟩ = W.frozen? ⟨b, o, none⟩) :=
  ⟨fun b o h => hb.cell (p := ⟨b, o, none⟩) h, fun b o h => hb.frozen (p := ⟨b, o, none⟩) h⟩

theorem ret_bool {a b : Bool} (h : a = b) : Ending.returned (.bool a) = .returned (.bool b) := by rw [h]
theorem ret_int {k : IntKind} {a b : Int} (h : a = b) : Ending.returned (.int k a) = .returned (.int k b) := by rw [h]

/-- A float stored into a cell (the walk's set has the like for a number, a text, a pointer). -/
theorem run_store_float {P : Program} (w : World) (a : Addr) (m : Mode) (k : FloatKind) (n : Nat) : (store a (.float k n) m).run P w = stored P w a (.float k n) m := run_store P w a _ m rfl

/-- Block g is a plain row of these cells. -/
def Blk (w : World) (g : Nat) (cur : Array Value) (e : TypeId) : Prop := w.heap[g]? = some (.cells cur e (0, 0))
theorem Blk.lt {w : World} {g : Nat} {cur : Array Value} {e : TypeId} (h : Blk w g cur e) : g < w.heap.size := (Array.getElem?_eq_some_iff.1 h).1
theorem Blk.cell {w : World} {g : Nat} {cur : Array Value} {e : TypeId} (h : Blk w g cur e) (k : Nat) : w.cell? ⟨g, k, none⟩ = cur[k]? := by
  unfold Blk at h; simp [World.cell?, h]
theorem Blk.frozen {w : World} {g : Nat} {cur : Array Value} {e : TypeId} (h : Blk w g cur e) (k : Nat) : w.frozen? ⟨g, k, none⟩ = false := by
  unfold Blk at h; simp [World.frozen?, h]
theorem Blk.set {w : World} {g : Nat} {cur : Array Value} {e : TypeId} (h : Blk w g cur e) (i : Nat) (v : Value) : Blk (w.setCell ⟨g, i, none⟩ v) g (cur.setIfInBounds i v) e :=
  heap_setCell_same w g i cur e v h
theorem Blk.other {w : World} {g : Nat} {cur : Array Value} {e : TypeId} (h : Blk w g cur e) (a : Addr) (v : Value) (hne : g ≠ a.block) : Blk (w.setCell a v) g cur e := by
  unfold Blk; rw [heap_setCell_other w a g v hne]; exact h
theorem Blk.below {w w' : World} {g : Nat} {cur : Array Value} {e : TypeId} (h : Blk w g cur e) {B : Nat} (hb : Below B w w') (hB : g < B) : Blk w' g cur e := by
  unfold Blk; rw [hb.block g hB]; exact h
theorem Blk.alloc {w : World} {g : Nat} {cur : Array Value} {e : TypeId} (h : Blk w g cur e) (o : Obj) : Blk (w.alloc o) g cur e := h.below ((Below.refl w.heap.size w).alloc (Nat.le_refl _) o) h.lt
theorem Blk.grown {w w' : World} {g : Nat} {cur : Array Value} {e : TypeId} (h : Blk w g cur e) {row : Option Nat} (hg : w.grownBy w' row) (hne : some g ≠ row) : Blk w' g cur e := by
  unfold Blk; rw [hg.block g h.lt hne]; exact h
theorem Blk.new (w : World) (cs : Array Value) (t : TypeId) : Blk (w.alloc (.cells cs t)) w.heap.size cs t := by
  show (w.heap.push _)[w.heap.size]? = _
  simp
theorem Blk.made {V : World} {n : Nat} (h : V.heap.size = n) (cs : Array Value) (t : TypeId) : Blk (V.alloc (.cells cs t)) n cs t := h ▸ Blk.new V cs t
theorem Blk.drewN {w : World} {g : Nat} {cur : Array Value} {e : TypeId} (h : Blk w g cur e) (n : Nat) : Blk (w.drewN n) g cur e := h

/-- A result that lies in memory. -/
theorem results_cell1 {P : Program} {fn : Func} {p : Tmp} {ty : TypeId} {tmps : Array Value} {w : World} {a : Addr} {v : Value} (h : fn.results = #[.cell p ty]) (hp : tmps.getD p undef = .pointer (some a))
    (hl : (loadVar ty a).run P w = .ok v w) : (results fn tmps).run P w = .ok v w := by
  rw [Array.getD_eq_getD_getElem?] at hp
  simp only [results, h]
  simp [asAddr, hp, hl]

/-- A row of cells with these laid into it from o on. -/
def splice (cur : Array Value) (o : Nat) (vs : List Value) : Array Value := match vs with
  | [] => cur
  | v :: r => splice (cur.setIfInBounds o v) (o + 1) r
theorem Blk.setCells {g : Nat} {e : TypeId} (vs : List Value) : ∀ {w : World} {cur : Array Value} (o : Nat), Blk w g cur e → Blk (w.setCells g o vs) g (splice cur o vs) e := by
  induction vs with
  | nil => exact fun _ h => h
  | cons v r ih => exact fun o h => ih (o + 1) (h.set o v)
theorem Blk.setCellsOther {g : Nat} {e : TypeId} {b : Nat} (hne : g ≠ b) (vs : List Value) : ∀ {w : World} {cur : Array Value} (o : Nat), Blk w g cur e → Blk (w.setCells b o vs) g cur e := by
  induction vs with
  | nil => exact fun _ h => h
  | cons v r ih => exact fun o h => ih (o + 1) (h.other _ v hne)
theorem below_setCells {B b : Nat} {a : World} (hB : B ≤ b) (vs : List Value) : ∀ {w : World} (o : Nat), Below B a w → Below B a (w.setCells b o vs) := by
  induction vs with
  | nil => exact fun _ h => h
  | cons v r ih => exact fun o h => ih (o + 1) (h.setCell hB v)
theorem size_setCells {b : Nat} (vs : List Value) : ∀ {w : World} (o : Nat), (w.setCells b o vs).heap.size = w.heap.size := by
  induction vs with
  | nil => exact fun _ => rfl
  | cons v r ih => exact fun o => (ih (o + 1)).trans (by simp [World.setCell])
theorem heap_setCells {b : Nat} (vs : List Value) : ∀ {w : World} (o : Nat) {k : Nat}, k ≠ b → (w.setCells b o vs).heap[k]? = w.heap[k]? := by
  induction vs with
  | nil => exact fun _ _ _ => rfl
  | cons v r ih => exact fun o k hk => (ih (o + 1) hk).trans (heap_setCell_other _ _ _ _ hk)
theorem Blk.range {w : World} {g : Nat} {cur : Array Value} {e : TypeId} (h : Blk w g cur e) (o : Nat) (cs : List Value) (hcs : (cur.toList.drop o).take cs.length = cs) : w.rangeAt g o cs := fun j v hv => by
  rw [h.cell]
  rw [← hcs] at hv
  have hj : j < cs.length := by
    have := (List.getElem?_eq_some_iff.1 hv).1
    rw [List.length_take] at this
    omega
  rw [List.getElem?_take_of_lt hj, List.getElem?_drop] at hv
  simpa using hv
theorem Blk.there {w : World} {g : Nat} {cur : Array Value} {e : TypeId} (h : Blk w g cur e) (o n : Nat) (hle : o + n ≤ cur.size) : w.there g o n := fun j hj => by
  refine ⟨?_, h.frozen _⟩
  rw [h.cell, Array.getElem?_eq_getElem (by omega)]
  rfl

end Go.Proofs.YtojpjaifhjigfaaGreatDoor

/- Configurations: the numbers and the threshold, as the program and the document's answer ask them. -/
namespace Go.Proofs.YtojpjaifhjigfaaGreatDoor
open Go.RowKit

/-- A configuration's fields but its map. -/
structure Cfg where
  d : Int
  q : Int
  at' : Int
  ba : Int
  ca : Int
  ti : Int
  wi : Int
  le : Int
  th : Nat
  op : Int

abbrev Cfg.cells (c : Cfg) (m : Option Nat) : Array Value := #[.int .i64 c.d, .map m, .int .i64 c.q, .int .i64 c.at', .int .i64 c.ba, .int .i64 c.ca, .int .i64 c.ti, .int .i64 c.wi, .int .i64 c.le, .float .f64 c.th, .int .i64 c.op]
abbrev Cfg.val (c : Cfg) (m : Option Nat) : Value := .agg (c.cells m)

def inB (v l m : Int) : Bool := decide (l ≤ v) && decide (v ≤ m)

set_option maxHeartbeats 400000 in
theorem holds_any (v l m : Int) (w : World) : Calls Tryz.prog 67 #[.agg #[.int .i64 v, .int .i64 l, .int .i64 m]] w fun e w' => e = .returned (.bool (inB v l m)) ∧ Below w.heap.size w w' := by
  by_cases h : l ≤ v
  all_goals
    go_enter Tryz.func67, Tryz.ntmps67
    go_wp2
    go_ret
    exact ⟨by simp [inB, h]; try omega, (Below.refl _ _).alloc (Nat.le_refl _) _⟩

/-- Above 0 and not above 1, as float64. -/
def thB (t : Nat) : Bool := (FloatKind.f64.format.order t 0 == some .gt) && (FloatKind.f64.format.order t 4607182418800017408 == some .lt || FloatKind.f64.format.order t 4607182418800017408 == some .eq)

set_option maxHeartbeats 400000 in
theorem isThreshold_any (t : Nat) (w : World) : Calls Tryz.prog 97 #[.float .f64 t] w fun e w' => e = .returned (.bool (thB t)) ∧ w' = w := by
  by_cases h : (FloatKind.f64.format.order t 0 == some .gt) = true
  all_goals
    go_enter Tryz.func97, Tryz.ntmps97
    go_wp2
    go_ret
    exact ⟨by simp [thB, h], rfl⟩

/-- The nine numbers and their bounds, as areNumbers lists them. -/
def Cfg.nums (c : Cfg) : List (Int × Int × Int) := [(c.d, 1, 4), (c.q, 1, 120), (c.at', 1, 10), (c.ca, 1, 60000), (c.ba, 1, c.ca), (c.ti, 1, 60000), (c.op, 1, 60000), (c.wi, 1, 64), (c.le, 1, c.wi)]
def Cfg.numB (c : Cfg) : Bool := c.nums.all fun x => inB x.1 x.2.1 x.2.2
theorem Cfg.num_d {c : Cfg} (h : c.numB = true) : 1 ≤ c.d ∧ c.d ≤ 4 := by
  have := List.all_eq_true.1 h (c.d, 1, 4) (by simp [Cfg.nums])
  simpa [inB] using this

set_option maxHeartbeats 400000 in
theorem areNumbers_any (c : Cfg) (m : Option Nat) (w : World) : Calls Tryz.prog 95 #[c.val m] w fun e w' => e = .returned (.bool c.numB) ∧ Below w.heap.size w w' := by
  go_enter Tryz.func95, Tryz.ntmps95
  go_wp2_with fail
  generalize hW : ((w.alloc (Obj.cells (c.cells m) 25)).alloc _) = W
  have hB : Below w.heap.size w W := by rw [← hW]; exact ((Below.refl _ _).alloc (Nat.le_refl _) _).alloc (by simp) _
  have hsz : W.heap.size = w.heap.size + 2 := by rw [← hW]; simp
  have hc : ∀ k (h : k < 9), W.cell? ⟨w.heap.size + 1, k * 3, none⟩ = some (.int .i64 (c.nums[k]'h).1) ∧ W.cell? ⟨w.heap.size + 1, k * 3 + 1, none⟩ = some (.int .i64 (c.nums[k]'h).2.1) ∧ W.cell? ⟨w.heap.size + 1, k * 3 + 2, none⟩ = some (.int .i64 (c.nums[k]'h).2.2) := by
    rw [← hW]
    intro k h
    rw [World.cell?_alloc_at _ _ _ _ (by simp), World.cell?_alloc_at _ _ _ _ (by simp), World.cell?_alloc_at _ _ _ _ (by simp)]
    match k, h with
    | 0, _ => exact ⟨rfl, rfl, rfl⟩
    | 1, _ => exact ⟨rfl, rfl, rfl⟩
    | 2, _ => exact ⟨rfl, rfl, rfl⟩
    | 3, _ => exact ⟨rfl, rfl, rfl⟩
    | 4, _ => exact ⟨rfl, rfl, rfl⟩
    | 5, _ => exact ⟨rfl, rfl, rfl⟩
    | 6, _ => exact ⟨rfl, rfl, rfl⟩
    | 7, _ => exact ⟨rfl, rfl, rfl⟩
    | 8, _ => exact ⟨rfl, rfl, rfl⟩
  clear hW
  have HB : Hid (Below w.heap.size w W) := hB
  have HC := hide hc
  clear hB hc
  go_loopw [38] (fun i wr => ∃ k : Nat, k ≤ 9 ∧ i = .int .i64 k ∧ (c.nums.take k).all (fun x => inB x.1 x.2.1 x.2.2) = true ∧ Below (w.heap.size + 2) W wr) (fun i _ => 9 - (intOf i).toNat)
  case atStart => exact ⟨0, by omega, rfl, rfl, Below.refl _ _⟩
  case round =>
    obtain ⟨k, hk, rfl, hall, hb⟩ := hrel
    have Hall := hide hall
    clear hall
    by_cases hlt : k < 9
    · have hltI : (k : Int) < 9 := by omega
      obtain ⟨h0, h1, h2⟩ := HC.out k hlt
      rw [← hb.cell (p := ⟨w.heap.size + 1, _, none⟩) (by simp)] at h0 h1 h2
      go_wp2_with fail
      refine (holds_any _ _ _ _).mono ?_
      rintro e w1 ⟨rfl, hb1⟩
      have hW2 : w.heap.size + 2 ≤ wr.heap.size := by have := hb.size; omega
      have hb2 : Below (w.heap.size + 2) W w1 := (hb.alloc hW2 _).trans (hb1.mono (by simp; omega))
      have hn : c.nums[k]? = some (c.nums[k]'hlt) := List.getElem?_eq_getElem hlt
      have hta : (c.nums.take (k + 1)).all (fun x => inB x.1 x.2.1 x.2.2) = inB (c.nums[k]'hlt).1 (c.nums[k]'hlt).2.1 (c.nums[k]'hlt).2.2 := by
        rw [List.take_succ_eq_append_getElem hlt, List.all_append, Hall.out]; simp
      have HT := hide hta
      clear hta hn
      cases hin : inB (c.nums[k]'hlt).1 (c.nums[k]'hlt).2.1 (c.nums[k]'hlt).2.2
      · have hfin : c.numB = false := by
          rw [hin] at HT
          unfold Cfg.numB
          cases hq : c.nums.all (fun x => inB x.1 x.2.1 x.2.2) with
          | false => rfl
          | true =>
            have := HT.out
            rw [List.all_eq_true] at hq
            rw [List.all_eq_false] at this
            obtain ⟨x, hx, hx2⟩ := this
            exact absurd (hq x (List.mem_of_mem_take hx)) hx2
        have HF := hide hfin
        clear hfin
        go_wp2_with fail
        go_ret
        exact ⟨ret_bool HF.out.symm, HB.out.trans (hb2.mono (by omega))⟩
      · go_wp2_with fail
        go_roundw
        case rel => exact ⟨k + 1, by omega, by go_num, by rw [HT.out, hin], hb2⟩
        case measure => simp [intOf]; omega
    · have h9 : k = 9 := by omega
      go_wp2_with fail
      go_ret
      exact ⟨ret_bool (by rw [h9] at Hall; exact Hall.out.symm), HB.out.trans (hb.mono (by omega))⟩

end Go.Proofs.YtojpjaifhjigfaaGreatDoor

/- The map of quanta: what the program's areQuanta answers. -/
namespace Go.Proofs.YtojpjaifhjigfaaGreatDoor
open Go.RowKit Go.Maps

/-- Block b is a map from texts to numbers, of at most n entries, that reads as D. -/
abbrev OM (w : World) (b n : Nat) (D : DataW Unit) : Prop := w.ownsMap Tryz.prog 9 (plainElem Tryz.prog 3) b n D
abbrev RG (w : World) (b r n : Nat) (D : DataW Unit) (left : Lit → Bool) (cnt : Nat) : Prop := w.ranges Tryz.prog 9 (plainElem Tryz.prog 3) b r n D left cnt

theorem lawS : Keyed Tryz.prog 9 := string_keyed Tryz.underlying9
theorem zeroInt (w : World) : (zeroValue 3).run Tryz.prog w = .ok (.int .i64 0) w := by kernel_rfl

theorem invK (key : Value) (kl : Lit) (hk : keyOf Tryz.prog 9 key = some kl) : ∃ x, key = encStr x := by
  obtain ⟨x, hx, _⟩ := Maps.keyOf_str Tryz.underlying9 hk; exact ⟨x, hx⟩
theorem invV (v : Value) (y : DataW Unit × List MemPlace) (hv : plainElem Tryz.prog 3 v = some y) : ∃ c, v = .int .i64 c := by
  obtain ⟨c, rfl, _⟩ := plainElem_int_inv Tryz.underlying3 hv; exact ⟨c, rfl⟩

/-- One entry keeps its bounds. -/
def okKV (x : List UInt8) (c : Int) : Bool := inB x.length 1 16 && inB c 64 1000
/-- At the key x stands c. -/
def At (D : DataW Unit) (x : List UInt8) (c : Int) : Prop := ∀ zd, D.atKey (.string x) zd = .lit (.int .i64 c)
def GoodQ (D : DataW Unit) : Prop := (1 ≤ Maps.size D ∧ Maps.size D ≤ 8) ∧ ∀ x c, At D x c → okKV x c = true

theorem At.has {D : DataW Unit} {x : List UInt8} {c : Int} (h : At D x c) : Maps.has D (.string x) = true := has_true_of_atKey h
theorem At.eq {D : DataW Unit} {x : List UInt8} {c c' : Int} (h : At D x c) (h' : At D x c') : c = c' := by
  have := (h .nil).symm.trans (h' .nil)
  simpa using this

/-- What was seen of the entries so far keeps its bounds. -/
def SeenOk (D : DataW Unit) (left : Lit → Bool) : Prop := ∀ x c, At D x c → left (.string x) = false → okKV x c = true
theorem SeenOk.start (D : DataW Unit) : SeenOk D (Maps.has D) := fun x c h hl => by rw [h.has] at hl; cases hl
theorem SeenOk.step {D : DataW Unit} {left : Lit → Bool} (h : SeenOk D left) {x : List UInt8} {c : Int} (hat : At D x c) (hok : okKV x c = true) : SeenOk D (fun z => left z && !z.sameKey (.string x)) := by
  intro x' c' h' hl
  simp only [Bool.and_eq_false_iff, Bool.not_eq_false'] at hl
  rcases hl with hl | hl
  · exact h x' c' h' hl
  · have e : x' = x := by simpa [Lit.sameKey] using hl
    subst e
    rw [h'.eq hat]; exact hok

theorem om_below {w w' : World} {b n : Nat} {D : DataW Unit} (h : OM w b n D) {B : Nat} (hb : Below B w w') (hlt : b < B) : OM w' b n D := by
  obtain ⟨es, clock, h1, h2⟩ := h
  exact ⟨es, clock, by rw [hb.block b hlt]; exact h1, h2⟩
theorem rg_below {w w' : World} {b r n : Nat} {D : DataW Unit} {left : Lit → Bool} {cnt : Nat} (h : RG w b r n D left cnt) (hb : Below w.heap.size w w') : RG w' b r n D left cnt := by
  have h1 := h.owns.lt
  have h2 := h.lt
  obtain ⟨es, clock, since, seen, c0, k1, k2, k3, k4, k5, k6⟩ := h
  exact ⟨es, clock, since, seen, c0, by rw [hb.block b h1]; exact k1, k2, k3, k4, by rw [hb.block r h2]; exact k5, k6⟩

set_option maxHeartbeats 400000 in
theorem areQuanta_nil (w : World) : Calls Tryz.prog 96 #[.map none] w fun e w' => e = .returned (.bool false) ∧ Below w.heap.size w w' := by
  have hlen := fun ty => Maps.len_nil (P := Tryz.prog) (w := w) (k := 9) (t := 22) (e := 3) Tryz.underlying22 ty
  go_enter Tryz.func96, Tryz.ntmps96
  go_wp2_with fail
  refine (holds_any _ _ _ _).mono ?_
  rintro e w1 ⟨rfl, hb1⟩
  have h0 : inB 0 1 8 = false := by decide
  go_wp2_with fail
  go_ret
  exact ⟨rfl, ((Below.refl _ _).alloc (Nat.le_refl _) _).trans (hb1.mono (by simp))⟩

set_option maxHeartbeats 400000 in
theorem areQuanta_some (b n : Nat) (D : DataW Unit) (w : World) (hown : OM w b n D) : Calls Tryz.prog 96 #[.map (some b)] w fun e w' => ∃ r, e = .returned (.bool r) ∧ (r = true ↔ GoodQ D) ∧ Below w.heap.size w w' := by
  have hbl := hown.lt
  have HO := hide hown
  go_enter Tryz.func96, Tryz.ntmps96
  go_wp2_with (first
    | (at_len; refine wpList_len_own _ rfl _ 22 rfl 9 3 Tryz.underlying22 _ b n _ rfl hown ?_)
    | fail)
  refine (holds_any _ _ _ _).mono ?_
  rintro e w1 ⟨rfl, hb1⟩
  cases hs : inB (Maps.size D) 1 8
  · have hng : ¬ GoodQ D := fun h => by
      have := h.1
      simp [inB] at hs
      omega
    have HN := hide hng
    clear hng
    go_wp2_with fail
    go_ret
    exact ⟨false, rfl, by simp [HN.out], ((Below.refl _ _).alloc (Nat.le_refl _) _).trans (hb1.mono (by simp))⟩
  have hsz : 1 ≤ Maps.size D ∧ Maps.size D ≤ 8 := by simp [inB] at hs; omega
  have HS := hide hsz
  clear hsz
  have hB1 : Below w.heap.size w w1 := ((Below.refl _ _).alloc (Nat.le_refl _) _).trans (hb1.mono (by simp))
  have hown1 : OM w1 b n D := om_below hown hB1 hbl
  have HB1 := hide hB1
  clear hown hB1
  go_wp2_with (first
    | (at_range; refine wpList_range_own _ rfl _ 22 rfl 9 3 lawS Tryz.underlying22 _ b n _ rfl hown1 ?_; intro w0 hrg0 hg0 hs0)
    | fail)
  go_frame
  have hB0 : Below w.heap.size w w0 := HB1.out.grown hg0 HB1.out.size (fun j hj => by cases hj)
  have HB0 := hide hB0
  have hr : w.heap.size ≤ w1.heap.size := HB1.out.size
  clear hB0 hs0 hg0 hb1 hown1
  go_loopw [4] (fun _ wr => ∃ (left : Lit → Bool) (cnt : Nat), RG wr b w1.heap.size n D left cnt ∧ SeenOk D left ∧ Below w.heap.size w wr) (fun _ wr => wr.rangeLeft b w1.heap.size)
  case atStart => exact ⟨_, _, hrg0, SeenOk.start D, HB0.out⟩
  case round =>
    obtain ⟨left, cnt, hrg, hseen, hnx⟩ := hrel
    have Hseen := hide hseen
    have Hnx := hide hnx
    clear hseen hnx
    go_wp2_with (first
      | (at_next; refine wpList_next_ranges _ rfl _ rfl 9 lawS (plainElem Tryz.prog 3) encStr (Value.int .i64) invK invV b w1.heap.size n _ _ _ rfl hrg ?_ ?_)
      | fail)
    · intro hc0 hl0
      have hg : GoodQ D := ⟨HS.out, fun x c h => Hseen.out x c h (hl0 _)⟩
      have HG := hide hg
      clear hg hl0
      go_wp2_with fail
      go_ret
      exact ⟨true, rfl, by simp [HG.out], Hnx.out⟩
    · intro x c kl yd yp w2 cnt2 hkey hlk hv hat hrg2 hlt hg2 hs2 hen
      obtain ⟨x', ex, rfl, hxl⟩ := Maps.keyOf_str Tryz.underlying9 hkey
      obtain rfl : x = x' := encStr_inj ex
      obtain ⟨c', ec, ey, _⟩ := plainElem_int_inv Tryz.underlying3 hv
      obtain rfl : c = c' := by simpa using ec
      obtain ⟨rfl, rfl⟩ : yd = .lit (.int .i64 c) ∧ yp = [] := by simpa using ey
      have hAt : At D x c := hat
      have HAt := hide hAt
      have Hlt := hide hlt
      have Hb2 : Hid (Below w.heap.size w w2) := Hnx.out.grown hg2 Hnx.out.size (fun j hj => by cases hj; exact hr)
      have Hz2 := hide hs2
      clear hAt hat hkey hlk hv ex ec ey hs2 hlt hg2
      go_wp2_with fail
      refine (holds_any _ _ _ _).mono ?_
      rintro e w3 ⟨rfl, hb3⟩
      have hle2 : w.heap.size ≤ w2.heap.size := Hb2.out.size
      have hb3' : Below w.heap.size w w3 := ((Hb2.out.alloc hle2 _).alloc (by simp; omega) _).trans (hb3.mono (by simp; omega))
      have hrg3 : RG w3 b w1.heap.size n D (fun z => left z && !z.sameKey (.string x)) cnt2 := by
        have h4 := (hrg2.alloc (Obj.cells #[Value.int IntKind.i64 ↑x.length, Value.int IntKind.i64 1, Value.int IntKind.i64 16] 130)).alloc (Obj.cells #[Value.int IntKind.i64 c, Value.int IntKind.i64 64, Value.int IntKind.i64 1000] 130)
        exact rg_below h4 hb3
      obtain ⟨hc3, hf3⟩ := bcell hb3
      simp only [World.size_alloc] at hc3 hf3
      have Hb3 := hide hb3'
      have Hrg3 := hide hrg3
      have Hk := hide hb3
      clear hb3' hrg3 hb3 hrg2 hen hf3
      cases h1 : inB x.length 1 16
      · have hng : ¬ GoodQ D := fun h => by
          have := h.2 x c HAt.out
          simp [okKV, h1] at this
        have HN := hide hng
        clear hng
        go_wp2_with fail
        go_ret
        exact ⟨false, rfl, by simp [HN.out], Hb3.out⟩
      · go_wp2_with fail
        refine (holds_any _ _ _ _).mono ?_
        rintro e w4 ⟨rfl, hb4⟩
        have Hb4 : Hid (Below w.heap.size w w4) := Hb3.out.trans (hb4.mono Hb3.out.size)
        have Hrg4 := hide (rg_below Hrg3.out hb4)
        clear hb4 hc3
        cases h2 : inB c 64 1000
        · have hng : ¬ GoodQ D := fun h => by
            have := h.2 x c HAt.out
            simp [okKV, h2] at this
          have HN := hide hng
          clear hng
          go_wp2_with fail
          go_ret
          exact ⟨false, rfl, by simp [HN.out], Hb4.out⟩
        · go_wp2_with fail
          go_roundw
          case rel => exact ⟨_, cnt2, Hrg4.out, Hseen.out.step HAt.out (by simp [okKV, h1, h2]), Hb4.out⟩
          case measure => rw [Hrg4.out.left_eq, hrg.left_eq]; exact Hlt.out
end Go.Proofs.YtojpjaifhjigfaaGreatDoor

/- isConfig, and maps.Clone, newLasting, newBreakers, newAgent, Open: the program's side of opening. -/
namespace Go.Proofs.YtojpjaifhjigfaaGreatDoor
open Go.RowKit Go.Maps

/-- More entries than any argument can bring. -/
abbrev big : Nat := 8796093022208
/-- The map value m (nil: none) reads as D. -/
def MapAt (w : World) (m : Option Nat) (D : DataW Unit) : Prop := (m = none ∧ D = .map []) ∨ ∃ b n, m = some b ∧ OM w b n D ∧ n ≤ big
theorem MapAt.below {w w' : World} {m : Option Nat} {D : DataW Unit} (h : MapAt w m D) {B : Nat} (hb : Below B w w') (hB : w.heap.size ≤ B) : MapAt w' m D := by
  rcases h with h | ⟨b, n, h1, h2, h3⟩
  · exact Or.inl h
  · exact Or.inr ⟨b, n, h1, om_below h2 hb (Nat.lt_of_lt_of_le h2.lt hB), h3⟩
theorem MapAt.alloc {w : World} {m : Option Nat} {D : DataW Unit} (h : MapAt w m D) (o : Obj) : MapAt (w.alloc o) m D := h.below ((Below.refl _ _).alloc (Nat.le_refl _) _) (Nat.le_refl _)

theorem areQuanta_any (m : Option Nat) (D : DataW Unit) (w : World) (h : MapAt w m D) : Calls Tryz.prog 96 #[.map m] w fun e w' => ∃ r, e = .returned (.bool r) ∧ (r = true ↔ GoodQ D) ∧ Below w.heap.size w w' := by
  rcases h with ⟨rfl, rfl⟩ | ⟨b, n, rfl, h2, _⟩
  · refine (areQuanta_nil w).mono ?_
    rintro e w' ⟨rfl, hb⟩
    exact ⟨false, rfl, ⟨fun h => (by cases h), fun h => absurd h.1.1 (by simp [Maps.size])⟩, hb⟩
  · exact areQuanta_some b n D w h2

def GoodC (c : Cfg) (D : DataW Unit) : Prop := c.numB = true ∧ GoodQ D ∧ thB c.th = true

set_option maxHeartbeats 400000 in
theorem isConfig_any (c : Cfg) (m : Option Nat) (D : DataW Unit) (w : World) (h : MapAt w m D) : Calls Tryz.prog 62 #[c.val m] w fun e w' => ∃ r, e = .returned (.bool r) ∧ (r = true ↔ GoodC c D) ∧ Below w.heap.size w w' := by
  have H := hide h
  clear h
  go_enter Tryz.func62, Tryz.ntmps62
  go_wp2_with fail
  refine (areNumbers_any _ _ _).mono ?_
  rintro e w1 ⟨rfl, hb1⟩
  obtain ⟨hc1, hf1⟩ := bcell hb1
  simp only [World.size_alloc] at hc1
  have Hb1 : Hid (Below w.heap.size w w1) := ((Below.refl _ _).alloc (Nat.le_refl _) _).trans (hb1.mono (by simp))
  have Hk1 := hide hb1
  clear hf1 hb1
  cases h1 : c.numB
  · have Hn : Hid (¬ GoodC c D) := fun h => by rw [h.1] at h1; cases h1
    go_wp2_with fail
    go_ret
    exact ⟨false, rfl, by simp [Hn.out], Hb1.out⟩
  · go_wp2_with fail
    refine (areQuanta_any m D _ ((H.out.alloc _).below Hk1.out (Nat.le_refl _))).mono ?_
    rintro e w2 ⟨r2, rfl, hr2, hb2⟩
    obtain ⟨hc2, hf2⟩ := bcell hb2
    have Hb2 : Hid (Below w.heap.size w w2) := Hb1.out.trans (hb2.mono Hb1.out.size)
    have hlt : w.heap.size < w1.heap.size := by have := Hk1.out.size; simp at this; omega
    clear hf2 hb2
    have Hr2 := hide hr2
    clear hr2
    cases r2
    · have Hn : Hid (¬ GoodC c D) := fun h => by have := Hr2.out.2 h.2.1; cases this
      go_wp2_with fail
      go_ret
      exact ⟨false, rfl, by simp [Hn.out], Hb2.out⟩
    · go_wp2_with fail
      refine (isThreshold_any _ _).mono ?_
      rintro e w3 ⟨rfl, rfl⟩
      have Hg : Hid (thB c.th = true ↔ GoodC c D) := ⟨fun h => ⟨h1, Hr2.out.1 (by trivial), h⟩, fun h => h.2.2⟩
      go_wp2_with fail
      go_ret
      exact ⟨thB c.th, rfl, Hg.out, Hb2.out⟩

end Go.Proofs.YtojpjaifhjigfaaGreatDoor

/- conduitref.names: the names of a map, each once. -/
namespace Go.Proofs.YtojpjaifhjigfaaGreatDoor
open Go.RowKit Go.Maps

theorem infoString : (Tryz.prog.info? 9).map (fun i => (i.zero, i.size, i.bytes)) = some (some (.string ⟨#[]⟩), 1, 16) := by kernel_rfl

/-- The slice value v holds these texts, in memory from block B on. -/
def Texts (w : World) (B : Nat) (v : Value) (ss : List (List UInt8)) : Prop := w.ownsRow B 9 1 v ss.length (ss.map encStr)

theorem Texts.mono_base {w : World} {B B' : Nat} {v : Value} {ss : List (List UInt8)} (h : Texts w B v ss) (hB : B' ≤ B) : Texts w B' v ss := by
  refine ⟨h.1, ?_⟩
  rcases h.2 with h1 | ⟨g, cap, cur, h1, h2, h3⟩
  · exact Or.inl h1
  · exact Or.inr ⟨g, cap, cur, h1, Nat.le_trans hB h2, h3⟩
theorem Texts.shape {w : World} {B : Nat} {v : Value} {ss : List (List UInt8)} (h : Texts w B v ss) : ∃ a c, v = .slice a ss.length c := by
  rcases h.2 with ⟨rfl, h0⟩ | ⟨g, cap, cur, rfl, _⟩
  · exact ⟨none, 0, by rw [h0]⟩
  · exact ⟨_, _, rfl⟩

/-- Block g holds these texts, one a cell, with room for cap. -/
def RowS (w : World) (g cap : Nat) (ys : List (List UInt8)) : Prop := ∃ cur, Blk w g cur 9 ∧ cur.size = cap ∧ ys.length ≤ cap ∧ cap ≤ maxLen ∧ cur.toList.take ys.length = ys.map encStr
theorem RowS.of {w : World} {B g cap : Nat} {ys : List (List UInt8)} (h : w.ownsRow B 9 1 (.slice (some ⟨g, 0, none⟩) ys.length cap) ys.length (ys.map encStr)) : RowS w g cap ys := by
  rcases h.2 with ⟨h1, _⟩ | ⟨g', cap', cur, h1, _, h2, h3, h4, h5, h6⟩
  · cases h1
  · simp only [Value.slice.injEq, Option.some.injEq, Addr.mk.injEq, and_true, true_and] at h1
    obtain ⟨rfl, rfl⟩ := h1
    exact ⟨cur, h2, by simpa using h5, h3, h4, by simpa using h6⟩
theorem RowS.texts {w : World} {B g cap : Nat} {ys : List (List UInt8)} (h : RowS w g cap ys) (hB : B ≤ g) : Texts w B (.slice (some ⟨g, 0, none⟩) ys.length cap) ys := by
  obtain ⟨cur, h1, h2, h3, h4, h5⟩ := h
  exact ⟨by simp, Or.inr ⟨g, cap, cur, rfl, hB, h1, h3, h4, by simpa using h2, by simpa using h5⟩⟩
theorem RowS.cell {w : World} {g cap : Nat} {ys : List (List UInt8)} (h : RowS w g cap ys) (j : Nat) (hj : j < ys.length) : w.cell? ⟨g, j, none⟩ = some (encStr (ys[j]'hj)) := by
  obtain ⟨cur, h1, h2, h3, h4, h5⟩ := h
  rw [h1.cell j]
  have e : (cur.toList.take ys.length)[j]? = (ys.map encStr)[j]? := by rw [h5]
  rw [List.getElem?_take_of_lt hj, List.getElem?_map, List.getElem?_eq_getElem hj] at e
  simpa using e
theorem RowS.frozen {w : World} {g cap : Nat} {ys : List (List UInt8)} (h : RowS w g cap ys) (j : Nat) : w.frozen? ⟨g, j, none⟩ = false := by
  obtain ⟨cur, h1, _⟩ := h
  exact h1.frozen j
theorem RowS.set {w : World} {g cap : Nat} {ys : List (List UInt8)} (h : RowS w g cap ys) (k : Nat) (y : List UInt8) : RowS (w.setCell ⟨g, k, none⟩ (encStr y)) g cap (ys.set k y) := by
  obtain ⟨cur, h1, h2, h3, h4, h5⟩ := h
  refine ⟨_, h1.set k _, by simpa using h2, by simpa using h3, h4, ?_⟩
  rw [Array.toList_setIfInBounds, List.length_set, List.take_set, h5, List.map_set]

theorem rg_set {w : World} {b r n : Nat} {D : DataW Unit} {left : Lit → Bool} {cnt g : Nat} (h : RG w b r n D left cnt) (hb : b ≠ g) (hr : r ≠ g) (i : Nat) (v : Value) : RG (w.setCell ⟨g, i, none⟩ v) b r n D left cnt := by
  obtain ⟨es, clock, since, seen, c0, k1, k2, k3, k4, k5, k6⟩ := h
  exact ⟨es, clock, since, seen, c0, by rw [heap_setCell_other _ _ _ _ hb]; exact k1, k2, k3, k4, by rw [heap_setCell_other _ _ _ _ hr]; exact k5, k6⟩

theorem perm_shift (ys : List (List UInt8)) (j : Nat) (x : List UInt8) (h : j + 1 < ys.length) : ((ys.set (j + 1) (ys[j]'(by omega))).set j x).Perm (ys.set (j + 1) x) := by
  have hl : j + 1 < (ys.set (j + 1) x).length := by simpa using h
  have hl' : j < (ys.set (j + 1) x).length := by omega
  have : (((ys.set (j + 1) x).set (j + 1) ((ys.set (j + 1) x)[j]'hl')).set j ((ys.set (j + 1) x)[j + 1]'hl)).Perm (ys.set (j + 1) x) := List.set_set_perm hl hl'
  simpa using this

/-- A text goes where it belongs. -/
theorem insert_sorted {ys ss : List (List UInt8)} {x : List UInt8} {k : Nat} (hk : k < ys.length) (he : ys.take k ++ ys.drop (k + 1) = ss) (hs : ss.Pairwise (fun a b => a ≤ b)) (hB : ∀ y ∈ ys.drop (k + 1), x ≤ y) (hA : ∀ a ∈ ys.take k, a ≤ x) : (ys.set k x).Pairwise (fun a b => a ≤ b) := by
  rw [List.set_eq_take_append_cons_drop, if_pos hk]
  rw [← he, List.pairwise_append] at hs
  rw [List.pairwise_append]
  refine ⟨hs.1, List.pairwise_cons.2 ⟨hB, hs.2.1⟩, fun a ha b hb => ?_⟩
  rcases List.mem_cons.1 hb with rfl | hb
  · exact hA a ha
  · exact hs.2.2 a ha b hb
theorem take_le {ys ss : List (List UInt8)} {x : List UInt8} {j : Nat} (hj : j < ys.length) (he : ys.take (j + 1) ++ ys.drop (j + 1 + 1) = ss) (hs : ss.Pairwise (fun a b => a ≤ b)) (hx : ys[j] ≤ x) : ∀ a ∈ ys.take (j + 1), a ≤ x := by
  rw [← he, List.pairwise_append] at hs
  have h1 := hs.1
  rw [List.take_succ_eq_append_getElem hj, List.pairwise_append] at h1
  intro a ha
  rw [List.take_succ_eq_append_getElem hj] at ha
  rcases List.mem_append.1 ha with h | h
  · exact List.le_trans (h1.2.2 a h ys[j] (by simp)) hx
  · obtain rfl := List.mem_singleton.1 h
    exact hx
theorem shift_hole {ys : List (List UInt8)} {j : Nat} (h : j + 1 < ys.length) : (ys.set (j + 1) (ys[j]'(by omega))).take j ++ (ys.set (j + 1) (ys[j]'(by omega))).drop (j + 1) = ys.take (j + 1) ++ ys.drop (j + 1 + 1) ∧ (ys.set (j + 1) (ys[j]'(by omega))).drop (j + 1) = ys[j]'(by omega) :: ys.drop (j + 1 + 1) := by
  have e : (ys.set (j + 1) (ys[j]'(by omega))).drop (j + 1) = ys[j]'(by omega) :: ys.drop (j + 1 + 1) := by
    rw [List.set_eq_take_append_cons_drop, if_pos h, List.drop_append_of_le_length (by simp; omega), List.drop_of_length_le (by simp; omega), List.nil_append]
  refine ⟨?_, e⟩
  rw [e, List.take_set_of_le (by omega)]
  have e2 := List.take_succ_eq_append_getElem (show j < ys.length by omega)
  rw [e2]
  simp only [List.append_assoc, List.singleton_append]

set_option maxHeartbeats 400000 in
theorem refNames_nil (w : World) : Calls Tryz.prog 78 #[.map none] w fun e w' => e = .returned (.slice none 0 0) ∧ Below w.heap.size w w' := by
  have hrg := run_range_nilMap (P := Tryz.prog) w 22 9 3 Tryz.underlying22
  have hnx : ∀ ty, (Instr.next (.pointer (some ⟨w.heap.size, 0, none⟩)) false ty).run Tryz.prog (w.alloc (.mapIter none 0 #[] 0)) = _ := fun ty => run_next_nilMap _ ty 0 0 #[]
  go_enter Tryz.func78, Tryz.ntmps78
  go_wp2
  refine wp_loop_rounds 1 ?_
  rw [rounds_succ]
  go_wp2
  go_ret
  exact ⟨rfl, (Below.refl _ _).alloc (Nat.le_refl _) _⟩

set_option maxRecDepth 100000 in
set_option maxHeartbeats 1000000 in
theorem refNames_some (b n : Nat) (D : DataW Unit) (w : World) (hown : OM w b n D) (hn : n ≤ big) :
    Calls Tryz.prog 78 #[.map (some b)] w fun e w' => ∃ v ss, e = .returned v ∧ Texts w' w.heap.size v ss ∧ ss.Perm (strKeys D) ∧ ss.Pairwise (fun a b => a ≤ b) ∧ Below w.heap.size w w' := by
  obtain ⟨i0, hi, hz0, hz1, hz2⟩ := info_parts infoString
  have hbl := hown.lt
  have HO := hide hown
  have hsize : Maps.size D ≤ big := Nat.le_trans hown.size_le hn
  go_enter Tryz.func78, Tryz.ntmps78
  go_wp2_with (first
    | (at_range; refine wpList_range_own _ rfl _ 22 rfl 9 3 lawS Tryz.underlying22 _ b n _ rfl hown ?_; intro w0 hrg0 hg0 hs0)
    | fail)
  go_frame
  have Hg0 := hide hg0
  clear hg0 hs0 hown
  go_loopw [3] (fun v wr => ∃ (left : Lit → Bool) (cnt : Nat) (ss s0 : List (List UInt8)), RG wr b w.heap.size n D left cnt ∧ ss.length + cnt ≤ Maps.size D ∧
      Texts wr w.heap.size v ss ∧ ss.Perm s0 ∧ ss.Pairwise (fun a b => a ≤ b) ∧ Collected D left s0 ∧ Below w.heap.size w wr)
    (fun _ wr => wr.rangeLeft b w.heap.size)
  case atStart =>
    exact ⟨_, _, [], [], hrg0, by simp, ⟨rfl, Or.inl ⟨rfl, rfl⟩⟩, List.Perm.refl _, List.Pairwise.nil, Collected.start D, (Below.refl _ _).grown Hg0.out (Nat.le_refl _) (fun j hj => by cases hj)⟩
  case round =>
    obtain ⟨left, cnt, ss, s0, hrg, hcs, hrow, hperm, hsort, hC, hnx⟩ := hrel
    have HSrt := hide hsort
    clear hsort
    obtain ⟨a3, c3, rfl⟩ := hrow.shape
    have Hrow := hide hrow
    have Hp := hide hperm
    have HC := hide hC
    have Hnx := hide hnx
    clear hrow hperm hC hnx
    go_wp2_with (first
      | (at_next; refine wpList_next_ranges _ rfl _ rfl 9 lawS (plainElem Tryz.prog 3) encStr (Value.int .i64) invK invV b w.heap.size n _ _ _ rfl hrg ?_ ?_)
      | fail)
    · intro hc0 hl0
      have Hl0 := hide hl0
      clear hl0
      go_wp2_with fail
      go_ret
      exact ⟨_, ss, rfl, Hrow.out, Hp.out.trans (HC.out.perm HO.out lawS Tryz.underlying9 Hl0.out), HSrt.out, Hnx.out⟩
    · intro x c kl yd yp w2 cnt2 hkey hlk hv hat hrg2 hlt hg2 hs2 hen
      obtain ⟨x', ex, rfl, hxl⟩ := Maps.keyOf_str Tryz.underlying9 hkey
      obtain rfl : x = x' := encStr_inj ex
      have hrow2 : Texts w2 w.heap.size _ ss := Hrow.out.kept hg2 (Or.inr (row_ne_iter Hrow.out hrg).symm)
      have HC2 := hide (HC.out.step hlk hat)
      have Hb2 : Hid (Below w.heap.size w w2) := Hnx.out.grown hg2 Hnx.out.size (fun j hj => by cases hj; exact Nat.le_refl _)
      have Hrg2 := hide hrg2
      have HM : Hid (cnt2 < wr.rangeLeft b w.heap.size) := by rw [hrg.left_eq]; exact hlt
      have hcnt : ss.length + 1 + cnt2 ≤ Maps.size D := by omega
      have hB2 : w.heap.size ≤ w2.heap.size := Hb2.out.size
      have hrl : some w.heap.size ≠ Value.ownBlock (.slice a3 ss.length c3) := row_ne_iter hrow2 hrg2
      have hbytes : (ss.length + 1) * 16 ≤ 140737488355328 := by unfold big at hsize; omega
      have h63 : ss.length + 1 ≤ maxLen := by unfold maxLen; unfold big at hsize; omega
      clear hs2 hkey hlk hv hat ex hg2 hrg2 hlt
      go_wp2_with (first
        | (at_builtin; refine wpList_append_lies _ rfl _ _ 85 rfl w.heap.size 9 i0 (.string ⟨#[]⟩) 1 16 Tryz.underlying85 hi hz0 hz1 hz2 rfl (by decide) _ _ _ rfl (hrow2.alloc _) ⟨w2.heap.size, 0, none⟩ 1 1 [encStr x] rfl rfl (cell_one_new _ _ _) (by simp [Value.oneCell', encStr]) (by decide) h63 hbytes (by simp; omega) (w2.heap.size + 1) (by simp) ?_; intro g cap w3 hown3 hg3 hat3 hlt3; go_frame)
        | fail)
      have hlen : (ss.map encStr ++ [encStr x]) = (ss ++ [x]).map encStr := by simp
      have hR3 : RowS w3 g cap (ss ++ [x]) := RowS.of (by rw [← hlen]; simpa using hown3)
      have hrg3 : RG w3 b w.heap.size n D _ cnt2 := (Hrg2.out.alloc _).kept hg3 (row_ne_low hrow2 hbl) hrl
      have hb3 : Below w.heap.size w w3 := (Hb2.out.alloc hB2 _).grown hg3 (by simp; omega) (fun j hj => (hrow2.lt j hj).1)
      have hgB : w.heap.size ≤ g := by
        rcases hat3 with h | h
        · exact (hrow2.lt g h).1
        · omega
      have hgr : w.heap.size ≠ g := by
        rcases hat3 with h | h
        · intro e; rw [e] at hrl; exact hrl h.symm
        · have := Hrg2.out.lt; omega
      have hbg : b ≠ g := by omega
      have HR3 := hide hR3
      have Hrg3 := hide hrg3
      have Hb3 := hide hb3
      clear hlen hR3 hrg3 hb3 hown3 hg3 hat3 hrl hrow2 hen
      go_loopw [5] (fun i wq => ∃ (k : Nat) (ys : List (List UInt8)), i = .int .i64 k ∧ k ≤ ss.length ∧ ys.length = ss.length + 1 ∧ RowS wq g cap ys ∧ (ys.set k x).Perm (ss ++ [x]) ∧ (ys.take k ++ ys.drop (k + 1) = ss ∧ ∀ y ∈ ys.drop (k + 1), x ≤ y) ∧
          RG wq b w.heap.size n D (fun z => left z && !z.sameKey (.string x)) cnt2 ∧ Below w.heap.size w wq) (fun i _ => (intOf i).toNat)
      case atStart => exact ⟨ss.length, ss ++ [x], rfl, Nat.le_refl _, by simp, HR3.out, by simp, ⟨by simp, fun y hy => by simp at hy⟩, Hrg3.out, Hb3.out⟩
      case round =>
        obtain ⟨k, ys, rfl, hk, hyl, hR, hP, hH, hrgq, hbq⟩ := hrel
        have HH := hide hH
        clear hH
        have HR := hide hR
        have HP := hide hP
        have Hrgq := hide hrgq
        have Hbq := hide hbq
        clear hR hP hrgq hbq
        have hck : wr.cell? ⟨g, k, none⟩ = some (encStr (ys[k]'(by omega))) := HR.out.cell k (by omega)
        have hfk : wr.frozen? ⟨g, k, none⟩ = false := HR.out.frozen k
        have hkI : (k : Int) < (ss.length : Int) + 1 := by omega
        rcases k with _ | j
        · go_wp2_with fail
          go_roundw
          case rel => exact ⟨_, cnt2, ys.set 0 x, s0 ++ [x], rg_set Hrgq.out hbg hgr _ _, by simp [hyl]; omega, by have := (HR.out.set 0 x).texts hgB; simpa [hyl] using this, HP.out.trans (Hp.out.append_right [x]), insert_sorted (by omega) HH.out.1 HSrt.out HH.out.2 (by simp), HC2.out, Hbq.out.setCell hgB _⟩
          case measure => rw [(rg_set Hrgq.out hbg hgr _ _).left_eq]; exact HM.out
        · have hcj : wr.cell? ⟨g, j, none⟩ = some (encStr (ys[j]'(by omega))) := HR.out.cell j (by omega)
          have hjl : j + 1 < ys.length := by omega
          by_cases hxy : x < ys[j]'(by omega)
          · have hb1 : Op.bytesLess (ys[j]'(by omega)) x = false := by rw [bytesLess_eq]; exact decide_eq_false (List.lt_asymm hxy)
            have hb2 : ((ys[j]'(by omega)) == x) = false := beq_eq_false_iff_ne.2 (fun e => by rw [e] at hxy; exact List.lt_irrefl _ hxy)
            have Hxy := hide hxy
            clear hxy
            go_wp2_with fail
            go_roundw
            case rel => exact ⟨j, ys.set (j + 1) (ys[j]'(by omega)), rfl, by omega, by simpa using hyl, HR.out.set (j + 1) _, (perm_shift ys j x (by omega)).trans HP.out, ⟨(shift_hole hjl).1.trans HH.out.1, fun y hy => by
              rw [(shift_hole hjl).2] at hy
              rcases List.mem_cons.1 hy with rfl | hy
              · exact List.le_of_lt Hxy.out
              · exact HH.out.2 y hy⟩, rg_set Hrgq.out hbg hgr _ _, Hbq.out.setCell hgB _⟩
            case measure => simp [intOf]
          · have hle : ys[j]'(by omega) ≤ x := List.not_lt.1 hxy
            have HIns := hide (insert_sorted hjl HH.out.1 HSrt.out HH.out.2 (take_le (by omega) HH.out.1 HSrt.out hle))
            by_cases heq : ys[j]'(by omega) = x
            · have hb1 : Op.bytesLess (ys[j]'(by omega)) x = false := by rw [bytesLess_eq, heq]; exact decide_eq_false (List.lt_irrefl _)
              have hb2 : ((ys[j]'(by omega)) == x) = true := by rw [heq]; simp
              clear hxy hle heq
              go_wp2_with fail
              go_roundw
              case rel => exact ⟨_, cnt2, ys.set (j + 1) x, s0 ++ [x], rg_set Hrgq.out hbg hgr _ _, by simp [hyl]; omega, by have := (HR.out.set (j + 1) x).texts hgB; simpa [hyl] using this, HP.out.trans (Hp.out.append_right [x]), HIns.out, HC2.out, Hbq.out.setCell hgB _⟩
              case measure => rw [(rg_set Hrgq.out hbg hgr _ _).left_eq]; exact HM.out
            · have hlt2 : ys[j]'(by omega) < x := Classical.byContradiction fun h => heq (List.le_antisymm hle (List.not_lt.1 h))
              have hb1 : Op.bytesLess (ys[j]'(by omega)) x = true := by rw [bytesLess_eq]; exact decide_eq_true hlt2
              clear hxy hle heq hlt2
              go_wp2_with fail
              go_roundw
              case rel => exact ⟨_, cnt2, ys.set (j + 1) x, s0 ++ [x], rg_set Hrgq.out hbg hgr _ _, by simp [hyl]; omega, by have := (HR.out.set (j + 1) x).texts hgB; simpa [hyl] using this, HP.out.trans (Hp.out.append_right [x]), HIns.out, HC2.out, Hbq.out.setCell hgB _⟩
              case measure => rw [(rg_set Hrgq.out hbg hgr _ _).left_eq]; exact HM.out

theorem refNames_any (m : Option Nat) (D : DataW Unit) (w : World) (h : MapAt w m D) :
    Calls Tryz.prog 78 #[.map m] w fun e w' => ∃ v ss, e = .returned v ∧ Texts w' w.heap.size v ss ∧ ss.Perm (strKeys D) ∧ ss.Pairwise (fun a b => a ≤ b) ∧ Below w.heap.size w w' := by
  rcases h with ⟨rfl, rfl⟩ | ⟨b, n, rfl, h2, h3⟩
  · refine (refNames_nil w).mono ?_
    rintro e w' ⟨rfl, hb⟩
    exact ⟨_, [], rfl, ⟨rfl, Or.inl ⟨rfl, rfl⟩⟩, List.Perm.refl _, List.Pairwise.nil, hb⟩
  · exact refNames_some b n D w h2 h3
end Go.Proofs.YtojpjaifhjigfaaGreatDoor
