/- Steps of the proof (several texts in one): Base, Cfg, Quanta, IsConfig, Foot, Model. -/
import Derived.WalkKit
import Derived.WalkSpells
import Derived.WalkLawsBesides
import Derived.Laws.Rows
import Derived.Deep.MidRow
import Derived.Test.YtojpjaifhjigfabGreatDoorProg
import Derived.Deep.QuietTactic
import Derived.BigQuiet
import Derived.Outline
import Derived.Maps.RangeWalk
import Derived.Maps.Ext
import Derived.Maps.OwnSet
import Derived.Maps.OwnOps
import Derived.Sort.KeysCollected
import Derived.Maps.AppendAt
import Derived.Deep.AppendLies

/- Small helpers of whatever program: a fact laid aside, cells that stay, blocks that stay. -/
namespace Go.Proofs.YtojpjaifhjigfabGreatDoor
open Go.RowKit

theorem hide {p : Prop} (h : p) : Hid p := h

theorem bcell {W w1 : World} {B : Nat} (hb : Below B W w1) : (∀ b o, b < B → w1.cell? ⟨b, o, none⟩ = W.cell? ⟨b, o, none⟩) ∧ (∀ b o, b < B → w1.frozen? ⟨b, o, none⟩ = W.frozen? ⟨b, o, none⟩) :=
  ⟨fun b o h => hb.cell (p := ⟨b, o, none⟩) h, fun b o h => hb.frozen (p := ⟨b, o, none⟩) h⟩

theorem ret_bool {a b : Bool} (h : a = b) : Ending.returned (.bool a) = .returned (.bool b) := by rw [h]
theorem ret_int {k : IntKind} {a b : Int} (h : a = b) : Ending.returned (.int k a) = .returned (.int k b) := by rw [h]

/-- A float stored into a cell (the walk's set has the like for a number, a text, a pointer). -/
theorem run_store_float {P : Program} (w : World) (a : Addr) (m : Mode) (k : FloatKind) (n : Nat) : (store a (.float k n) m).run P w = stored P w a (.float k n) m := run_store P w a _ m rfl

/-- Block g is a plain row of these cells. -/
def Blk (w : World) (g : Nat) (cur : Array Value) (e : TypeId) : Prop := w.heap[g]? = some (.cells cur e (0, 0))
theorem Blk.lt {w : World} {g : Nat} {cur : Array Value} {e : TypeId} (h : Blk w g cur e) : g < w.heap.size := (Array.getElem?_eq_some_iff.1 h).1
theorem Blk.cell {w : World} {g : Nat} {cur : Array Value} {e : TypeId} (h : Blk w g cur e) (k : Nat) : w.cell? ⟨g, k, none⟩ = cur[k]? := by
  unfold Blk at h; simp [World.cell?, h]
theorem Blk.frozen {w : World} {g : Nat} {cur : Array Value} {e : TypeId} (h : Blk w g cur e) (k : Nat) : w.frozen? ⟨g, k, none⟩ = false := by
  unfold Blk at h; simp [World.frozen?, h]
theorem Blk.set {w : World} {g : Nat} {cur : Array Value} {e : TypeId} (h : Blk w g cur e) (i : Nat) (v : Value) : Blk (w.setCell ⟨g, i, none⟩ v) g (cur.setIfInBounds i v) e :=
  heap_setCell_same w g i cur e v h
theorem Blk.other {w : World} {g : Nat} {cur : Array Value} {e : TypeId} (h : Blk w g cur e) (a : Addr) (v : Value) (hne : g ≠ a.block) : Blk (w.setCell a v) g cur e := by
  unfold Blk; rw [heap_setCell_other w a g v hne]; exact h
theorem Blk.below {w w' : World} {g : Nat} {cur : Array Value} {e : TypeId} (h : Blk w g cur e) {B : Nat} (hb : Below B w w') (hB : g < B) : Blk w' g cur e := by
  unfold Blk; rw [hb.block g hB]; exact h
theorem Blk.alloc {w : World} {g : Nat} {cur : Array Value} {e : TypeId} (h : Blk w g cur e) (o : Obj) : Blk (w.alloc o) g cur e := h.below ((Below.refl w.heap.size w).alloc (Nat.le_refl _) o) h.lt
theorem Blk.grown {w w' : World} {g : Nat} {cur : Array Value} {e : TypeId} (h : Blk w g cur e) {row : Option Nat} (hg : w.grownBy w' row) (hne : some g ≠ row) : Blk w' g cur e := by
  unfold Blk; rw [hg.block g h.lt hne]; exact h
theorem Blk.new (w : World) (cs : Array Value) (t : TypeId) : Blk (w.alloc (.cells cs t)) w.heap.size cs t := by
  show (w.heap.push _)[w.heap.size]? = _
  simp
theorem Blk.made {V : World} {n : Nat} (h : V.heap.size = n) (cs : Array Value) (t : TypeId) : Blk (V.alloc (.cells cs t)) n cs t := h ▸ Blk.new V cs t
theorem Blk.drewN {w : World} {g : Nat} {cur : Array Value} {e : TypeId} (h : Blk w g cur e) (n : Nat) : Blk (w.drewN n) g cur e := h

/-- A result that lies in memory. -/
theorem results_cell1 {P : Program} {fn : Func} {p : Tmp} {ty : TypeId} {tmps : Array Value} {w : World} {a : Addr} {v : Value} (h : fn.results = #[.cell p ty]) (hp : tmps.getD p undef = .pointer (some a))
    (hl : (loadVar ty a).run P w = .ok v w) : (results fn tmps).run P w = .ok v w := by
  rw [Array.getD_eq_getD_getElem?] at hp
  simp only [results, h]
  simp [asAddr, hp, hl]

/-- A row of cells with these laid into it from o on. -/
def splice (cur : Array Value) (o : Nat) (vs : List Value) : Array Value := match vs with
  | [] => cur
  | v :: r => splice (cur.setIfInBounds o v) (o + 1) r
theorem Blk.setCells {g : Nat} {e : TypeId} (vs : List Value) : ∀ {w : World} {cur : Array Value} (o : Nat), Blk w g cur e → Blk (w.setCells g o vs) g (splice cur o vs) e := by
  induction vs with
  | nil => exact fun _ h => h
  | cons v r ih => exact fun o h => ih (o + 1) (h.set o v)
theorem Blk.setCellsOther {g : Nat} {e : TypeId} {b : Nat} (hne : g ≠ b) (vs : List Value) : ∀ {w : World} {cur : Array Value} (o : Nat), Blk w g cur e → Blk (w.setCells b o vs) g cur e := by
  induction vs with
  | nil => exact fun _ h => h
  | cons v r ih => exact fun o h => ih (o + 1) (h.other _ v hne)
theorem below_setCells {B b : Nat} {a : World} (hB : B ≤ b) (vs : List Value) : ∀ {w : World} (o : Nat), Below B a w → Below B a (w.setCells b o vs) := by
  induction vs with
  | nil => exact fun _ h => h
  | cons v r ih => exact fun o h => ih (o + 1) (h.setCell hB v)
theorem size_setCells {b : Nat} (vs : List Value) : ∀ {w : World} (o : Nat), (w.setCells b o vs).heap.size = w.heap.size := by
  induction vs with
  | nil => exact fun _ => rfl
  | cons v r ih => exact fun o => (ih (o + 1)).trans (by simp [World.setCell])
theorem heap_setCells {b : Nat} (vs : List Value) : ∀ {w : World} (o : Nat) {k : Nat}, k ≠ b → (w.setCells b o vs).heap[k]? = w.heap[k]? := by
  induction vs with
  | nil => exact fun _ _ _ => rfl
  | cons v r ih => exact fun o k hk => (ih (o + 1) hk).trans (heap_setCell_other _ _ _ _ hk)
theorem Blk.range {w : World} {g : Nat} {cur : Array Value} {e : TypeId} (h : Blk w g cur e) (o : Nat) (cs : List Value) (hcs : (cur.toList.drop o).take cs.length = cs) : w.rangeAt g o cs := fun j v hv => by
  rw [h.cell]
  rw [← hcs] at hv
  have hj : j < cs.length := by
    have := (List.getElem?_eq_some_iff.1 hv).1
    rw [List.length_take] at this
    omega
  rw [List.getElem?_take_of_lt hj, List.getElem?_drop] at hv
  simpa using hv
theorem Blk.there {w : World} {g : Nat} {cur : Array Value} {e : TypeId} (h : Blk w g cur e) (o n : Nat) (hle : o + n ≤ cur.size) : w.there g o n := fun j hj => by
  refine ⟨?_, h.frozen _⟩
  rw [h.cell, Array.getElem?_eq_getElem (by omega)]
  rfl

end Go.Proofs.YtojpjaifhjigfabGreatDoor

/- Configurations: the numbers and the threshold, as the program and the document's answer ask them. -/
namespace Go.Proofs.YtojpjaifhjigfabGreatDoor
open Go.RowKit

/-- A configuration's fields but its map. -/
structure Cfg where
  d : Int
  q : Int
  at' : Int
  ba : Int
  ca : Int
  ti : Int
  wi : Int
  le : Int
  th : Nat
  op : Int

abbrev Cfg.cells (c : Cfg) (m : Option Nat) : Array Value := #[.int .i64 c.d, .map m, .int .i64 c.q, .int .i64 c.at', .int .i64 c.ba, .int .i64 c.ca, .int .i64 c.ti, .int .i64 c.wi, .int .i64 c.le, .float .f64 c.th, .int .i64 c.op]
abbrev Cfg.val (c : Cfg) (m : Option Nat) : Value := .agg (c.cells m)

def inB (v l m : Int) : Bool := decide (l ≤ v) && decide (v ≤ m)

set_option maxHeartbeats 400000 in
theorem holds_any (v l m : Int) (w : World) : Calls Tryz.prog 54 #[.agg #[.int .i64 v, .int .i64 l, .int .i64 m]] w fun e w' => e = .returned (.bool (inB v l m)) ∧ Below w.heap.size w w' := by
  by_cases h : l ≤ v
  all_goals
    go_enter Tryz.func54, Tryz.ntmps54
    go_wp2
    go_ret
    exact ⟨by simp [inB, h]; try omega, (Below.refl _ _).alloc (Nat.le_refl _) _⟩

/-- Above 0 and not above 1, as float64. -/
def thB (t : Nat) : Bool := (FloatKind.f64.format.order t 0 == some .gt) && (FloatKind.f64.format.order t 4607182418800017408 == some .lt || FloatKind.f64.format.order t 4607182418800017408 == some .eq)

set_option maxHeartbeats 400000 in
theorem isThreshold_any (t : Nat) (w : World) : Calls Tryz.prog 32 #[.float .f64 t] w fun e w' => e = .returned (.bool (thB t)) ∧ w' = w := by
  by_cases h : (FloatKind.f64.format.order t 0 == some .gt) = true
  all_goals
    go_enter Tryz.func32, Tryz.ntmps32
    go_wp2
    go_ret
    exact ⟨by simp [thB, h], rfl⟩

/-- The nine numbers and their bounds, as areNumbers lists them. -/
def Cfg.nums (c : Cfg) : List (Int × Int × Int) := [(c.d, 1, 4), (c.q, 1, 120), (c.at', 1, 10), (c.ca, 1, 60000), (c.ba, 1, c.ca), (c.ti, 1, 60000), (c.op, 1, 60000), (c.wi, 1, 64), (c.le, 1, c.wi)]
def Cfg.numB (c : Cfg) : Bool := c.nums.all fun x => inB x.1 x.2.1 x.2.2
theorem Cfg.num_d {c : Cfg} (h : c.numB = true) : 1 ≤ c.d ∧ c.d ≤ 4 := by
  have := List.all_eq_true.1 h (c.d, 1, 4) (by simp [Cfg.nums])
  simpa [inB] using this

set_option maxHeartbeats 400000 in
theorem areNumbers_any (c : Cfg) (m : Option Nat) (w : World) : Calls Tryz.prog 30 #[c.val m] w fun e w' => e = .returned (.bool c.numB) ∧ Below w.heap.size w w' := by
  go_enter Tryz.func30, Tryz.ntmps30
  go_wp2_with fail
  generalize hW : ((w.alloc (Obj.cells (c.cells m) 30)).alloc _) = W
  have hB : Below w.heap.size w W := by rw [← hW]; exact ((Below.refl _ _).alloc (Nat.le_refl _) _).alloc (by simp) _
  have hsz : W.heap.size = w.heap.size + 2 := by rw [← hW]; simp
  have hc : ∀ k (h : k < 9), W.cell? ⟨w.heap.size + 1, k * 3, none⟩ = some (.int .i64 (c.nums[k]'h).1) ∧ W.cell? ⟨w.heap.size + 1, k * 3 + 1, none⟩ = some (.int .i64 (c.nums[k]'h).2.1) ∧ W.cell? ⟨w.heap.size + 1, k * 3 + 2, none⟩ = some (.int .i64 (c.nums[k]'h).2.2) := by
    rw [← hW]
    intro k h
    rw [World.cell?_alloc_at _ _ _ _ (by simp), World.cell?_alloc_at _ _ _ _ (by simp), World.cell?_alloc_at _ _ _ _ (by simp)]
    match k, h with
    | 0, _ => exact ⟨rfl, rfl, rfl⟩
    | 1, _ => exact ⟨rfl, rfl, rfl⟩
    | 2, _ => exact ⟨rfl, rfl, rfl⟩
    | 3, _ => exact ⟨rfl, rfl, rfl⟩
    | 4, _ => exact ⟨rfl, rfl, rfl⟩
    | 5, _ => exact ⟨rfl, rfl, rfl⟩
    | 6, _ => exact ⟨rfl, rfl, rfl⟩
    | 7, _ => exact ⟨rfl, rfl, rfl⟩
    | 8, _ => exact ⟨rfl, rfl, rfl⟩
  clear hW
  have HB : Hid (Below w.heap.size w W) := hB
  have HC := hide hc
  clear hB hc
  go_loopw [38] (fun i wr => ∃ k : Nat, k ≤ 9 ∧ i = .int .i64 k ∧ (c.nums.take k).all (fun x => inB x.1 x.2.1 x.2.2) = true ∧ Below (w.heap.size + 2) W wr) (fun i _ => 9 - (intOf i).toNat)
  case atStart => exact ⟨0, by omega, rfl, rfl, Below.refl _ _⟩
  case round =>
    obtain ⟨k, hk, rfl, hall, hb⟩ := hrel
    have Hall := hide hall
    clear hall
    by_cases hlt : k < 9
    · have hltI : (k : Int) < 9 := by omega
      obtain ⟨h0, h1, h2⟩ := HC.out k hlt
      rw [← hb.cell (p := ⟨w.heap.size + 1, _, none⟩) (by simp)] at h0 h1 h2
      go_wp2_with fail
      refine (holds_any _ _ _ _).mono ?_
      rintro e w1 ⟨rfl, hb1⟩
      have hW2 : w.heap.size + 2 ≤ wr.heap.size := by have := hb.size; omega
      have hb2 : Below (w.heap.size + 2) W w1 := (hb.alloc hW2 _).trans (hb1.mono (by simp; omega))
      have hn : c.nums[k]? = some (c.nums[k]'hlt) := List.getElem?_eq_getElem hlt
      have hta : (c.nums.take (k + 1)).all (fun x => inB x.1 x.2.1 x.2.2) = inB (c.nums[k]'hlt).1 (c.nums[k]'hlt).2.1 (c.nums[k]'hlt).2.2 := by
        rw [List.take_succ_eq_append_getElem hlt, List.all_append, Hall.out]; simp
      have HT := hide hta
      clear hta hn
      cases hin : inB (c.nums[k]'hlt).1 (c.nums[k]'hlt).2.1 (c.nums[k]'hlt).2.2
      · have hfin : c.numB = false := by
          rw [hin] at HT
          unfold Cfg.numB
          cases hq : c.nums.all (fun x => inB x.1 x.2.1 x.2.2) with
          | false => rfl
          | true =>
            have := HT.out
            rw [List.all_eq_true] at hq
            rw [List.all_eq_false] at this
            obtain ⟨x, hx, hx2⟩ := this
            exact absurd (hq x (List.mem_of_mem_take hx)) hx2
        have HF := hide hfin
        clear hfin
        go_wp2_with fail
        go_ret
        exact ⟨ret_bool HF.out.symm, HB.out.trans (hb2.mono (by omega))⟩
      · go_wp2_with fail
        go_roundw
        case rel => exact ⟨k + 1, by omega, by go_num, by rw [HT.out, hin], hb2⟩
        case measure => simp [intOf]; omega
    · have h9 : k = 9 := by omega
      go_wp2_with fail
      go_ret
      exact ⟨ret_bool (by rw [h9] at Hall; exact Hall.out.symm), HB.out.trans (hb.mono (by omega))⟩

end Go.Proofs.YtojpjaifhjigfabGreatDoor

/- The map of quanta: what the program's areQuanta answers. -/
namespace Go.Proofs.YtojpjaifhjigfabGreatDoor
open Go.RowKit Go.Maps

/-- Block b is a map from texts to numbers, of at most n entries, that reads as D. -/
abbrev OM (w : World) (b n : Nat) (D : DataW Unit) : Prop := w.ownsMap Tryz.prog 9 (plainElem Tryz.prog 3) b n D
abbrev RG (w : World) (b r n : Nat) (D : DataW Unit) (left : Lit → Bool) (cnt : Nat) : Prop := w.ranges Tryz.prog 9 (plainElem Tryz.prog 3) b r n D left cnt

theorem lawS : Keyed Tryz.prog 9 := string_keyed Tryz.underlying9
theorem zeroInt (w : World) : (zeroValue 3).run Tryz.prog w = .ok (.int .i64 0) w := by kernel_rfl

theorem invK (key : Value) (kl : Lit) (hk : keyOf Tryz.prog 9 key = some kl) : ∃ x, key = encStr x := by
  obtain ⟨x, hx, _⟩ := Maps.keyOf_str Tryz.underlying9 hk; exact ⟨x, hx⟩
theorem invV (v : Value) (y : DataW Unit × List MemPlace) (hv : plainElem Tryz.prog 3 v = some y) : ∃ c, v = .int .i64 c := by
  obtain ⟨c, rfl, _⟩ := plainElem_int_inv Tryz.underlying3 hv; exact ⟨c, rfl⟩

/-- One entry keeps its bounds. -/
def okKV (x : List UInt8) (c : Int) : Bool := inB x.length 1 16 && inB c 64 1000
/-- At the key x stands c. -/
def At (D : DataW Unit) (x : List UInt8) (c : Int) : Prop := ∀ zd, D.atKey (.string x) zd = .lit (.int .i64 c)
def GoodQ (D : DataW Unit) : Prop := (1 ≤ Maps.size D ∧ Maps.size D ≤ 8) ∧ ∀ x c, At D x c → okKV x c = true

theorem At.has {D : DataW Unit} {x : List UInt8} {c : Int} (h : At D x c) : Maps.has D (.string x) = true := has_true_of_atKey h
theorem At.eq {D : DataW Unit} {x : List UInt8} {c c' : Int} (h : At D x c) (h' : At D x c') : c = c' := by
  have := (h .nil).symm.trans (h' .nil)
  simpa using this

/-- What was seen of the entries so far keeps its bounds. -/
def SeenOk (D : DataW Unit) (left : Lit → Bool) : Prop := ∀ x c, At D x c → left (.string x) = false → okKV x c = true
theorem SeenOk.start (D : DataW Unit) : SeenOk D (Maps.has D) := fun x c h hl => by rw [h.has] at hl; cases hl
theorem SeenOk.step {D : DataW Unit} {left : Lit → Bool} (h : SeenOk D left) {x : List UInt8} {c : Int} (hat : At D x c) (hok : okKV x c = true) : SeenOk D (fun z => left z && !z.sameKey (.string x)) := by
  intro x' c' h' hl
  simp only [Bool.and_eq_false_iff, Bool.not_eq_false'] at hl
  rcases hl with hl | hl
  · exact h x' c' h' hl
  · have e : x' = x := by simpa [Lit.sameKey] using hl
    subst e
    rw [h'.eq hat]; exact hok

theorem om_below {w w' : World} {b n : Nat} {D : DataW Unit} (h : OM w b n D) {B : Nat} (hb : Below B w w') (hlt : b < B) : OM w' b n D := by
  obtain ⟨es, clock, h1, h2⟩ := h
  exact ⟨es, clock, by rw [hb.block b hlt]; exact h1, h2⟩
theorem rg_below {w w' : World} {b r n : Nat} {D : DataW Unit} {left : Lit → Bool} {cnt : Nat} (h : RG w b r n D left cnt) (hb : Below w.heap.size w w') : RG w' b r n D left cnt := by
  have h1 := h.owns.lt
  have h2 := h.lt
  obtain ⟨es, clock, since, seen, c0, k1, k2, k3, k4, k5, k6⟩ := h
  exact ⟨es, clock, since, seen, c0, by rw [hb.block b h1]; exact k1, k2, k3, k4, by rw [hb.block r h2]; exact k5, k6⟩

set_option maxHeartbeats 400000 in
theorem areQuanta_nil (w : World) : Calls Tryz.prog 31 #[.map none] w fun e w' => e = .returned (.bool false) ∧ Below w.heap.size w w' := by
  have hlen := fun ty => Maps.len_nil (P := Tryz.prog) (w := w) (k := 9) (t := 27) (e := 3) Tryz.underlying27 ty
  go_enter Tryz.func31, Tryz.ntmps31
  go_wp2_with fail
  refine (holds_any _ _ _ _).mono ?_
  rintro e w1 ⟨rfl, hb1⟩
  have h0 : inB 0 1 8 = false := by decide
  go_wp2_with fail
  go_ret
  exact ⟨rfl, ((Below.refl _ _).alloc (Nat.le_refl _) _).trans (hb1.mono (by simp))⟩

set_option maxHeartbeats 400000 in
theorem areQuanta_some (b n : Nat) (D : DataW Unit) (w : World) (hown : OM w b n D) : Calls Tryz.prog 31 #[.map (some b)] w fun e w' => ∃ r, e = .returned (.bool r) ∧ (r = true ↔ GoodQ D) ∧ Below w.heap.size w w' := by
  have hbl := hown.lt
  have HO := hide hown
  go_enter Tryz.func31, Tryz.ntmps31
  go_wp2_with (first
    | (at_len; refine wpList_len_own _ rfl _ 27 rfl 9 3 Tryz.underlying27 _ b n _ rfl hown ?_)
    | fail)
  refine (holds_any _ _ _ _).mono ?_
  rintro e w1 ⟨rfl, hb1⟩
  cases hs : inB (Maps.size D) 1 8
  · have hng : ¬ GoodQ D := fun h => by
      have := h.1
      simp [inB] at hs
      omega
    have HN := hide hng
    clear hng
    go_wp2_with fail
    go_ret
    exact ⟨false, rfl, by simp [HN.out], ((Below.refl _ _).alloc (Nat.le_refl _) _).trans (hb1.mono (by simp))⟩
  have hsz : 1 ≤ Maps.size D ∧ Maps.size D ≤ 8 := by simp [inB] at hs; omega
  have HS := hide hsz
  clear hsz
  have hB1 : Below w.heap.size w w1 := ((Below.refl _ _).alloc (Nat.le_refl _) _).trans (hb1.mono (by simp))
  have hown1 : OM w1 b n D := om_below hown hB1 hbl
  have HB1 := hide hB1
  clear hown hB1
  go_wp2_with (first
    | (at_range; refine wpList_range_own _ rfl _ 27 rfl 9 3 lawS Tryz.underlying27 _ b n _ rfl hown1 ?_; intro w0 hrg0 hg0 hs0)
    | fail)
  go_frame
  have hB0 : Below w.heap.size w w0 := HB1.out.grown hg0 HB1.out.size (fun j hj => by cases hj)
  have HB0 := hide hB0
  have hr : w.heap.size ≤ w1.heap.size := HB1.out.size
  clear hB0 hs0 hg0 hb1 hown1
  go_loopw [4] (fun _ wr => ∃ (left : Lit → Bool) (cnt : Nat), RG wr b w1.heap.size n D left cnt ∧ SeenOk D left ∧ Below w.heap.size w wr) (fun _ wr => wr.rangeLeft b w1.heap.size)
  case atStart => exact ⟨_, _, hrg0, SeenOk.start D, HB0.out⟩
  case round =>
    obtain ⟨left, cnt, hrg, hseen, hnx⟩ := hrel
    have Hseen := hide hseen
    have Hnx := hide hnx
    clear hseen hnx
    go_wp2_with (first
      | (at_next; refine wpList_next_ranges _ rfl _ rfl 9 lawS (plainElem Tryz.prog 3) encStr (Value.int .i64) invK invV b w1.heap.size n _ _ _ rfl hrg ?_ ?_)
      | fail)
    · intro hc0 hl0
      have hg : GoodQ D := ⟨HS.out, fun x c h => Hseen.out x c h (hl0 _)⟩
      have HG := hide hg
      clear hg hl0
      go_wp2_with fail
      go_ret
      exact ⟨true, rfl, by simp [HG.out], Hnx.out⟩
    · intro x c kl yd yp w2 cnt2 hkey hlk hv hat hrg2 hlt hg2 hs2 hen
      obtain ⟨x', ex, rfl, hxl⟩ := Maps.keyOf_str Tryz.underlying9 hkey
      obtain rfl : x = x' := encStr_inj ex
      obtain ⟨c', ec, ey, _⟩ := plainElem_int_inv Tryz.underlying3 hv
      obtain rfl : c = c' := by simpa using ec
      obtain ⟨rfl, rfl⟩ : yd = .lit (.int .i64 c) ∧ yp = [] := by simpa using ey
      have hAt : At D x c := hat
      have HAt := hide hAt
      have Hlt := hide hlt
      have Hb2 : Hid (Below w.heap.size w w2) := Hnx.out.grown hg2 Hnx.out.size (fun j hj => by cases hj; exact hr)
      have Hz2 := hide hs2
      clear hAt hat hkey hlk hv ex ec ey hs2 hlt hg2
      go_wp2_with fail
      refine (holds_any _ _ _ _).mono ?_
      rintro e w3 ⟨rfl, hb3⟩
      have hle2 : w.heap.size ≤ w2.heap.size := Hb2.out.size
      have hb3' : Below w.heap.size w w3 := ((Hb2.out.alloc hle2 _).alloc (by simp; omega) _).trans (hb3.mono (by simp; omega))
      have hrg3 : RG w3 b w1.heap.size n D (fun z => left z && !z.sameKey (.string x)) cnt2 := by
        have h4 := (hrg2.alloc (Obj.cells #[Value.int IntKind.i64 ↑x.length, Value.int IntKind.i64 1, Value.int IntKind.i64 16] 119)).alloc (Obj.cells #[Value.int IntKind.i64 c, Value.int IntKind.i64 64, Value.int IntKind.i64 1000] 119)
        exact rg_below h4 hb3
      obtain ⟨hc3, hf3⟩ := bcell hb3
      simp only [World.size_alloc] at hc3 hf3
      have Hb3 := hide hb3'
      have Hrg3 := hide hrg3
      have Hk := hide hb3
      clear hb3' hrg3 hb3 hrg2 hen hf3
      cases h1 : inB x.length 1 16
      · have hng : ¬ GoodQ D := fun h => by
          have := h.2 x c HAt.out
          simp [okKV, h1] at this
        have HN := hide hng
        clear hng
        go_wp2_with fail
        go_ret
        exact ⟨false, rfl, by simp [HN.out], Hb3.out⟩
      · go_wp2_with fail
        refine (holds_any _ _ _ _).mono ?_
        rintro e w4 ⟨rfl, hb4⟩
        have Hb4 : Hid (Below w.heap.size w w4) := Hb3.out.trans (hb4.mono Hb3.out.size)
        have Hrg4 := hide (rg_below Hrg3.out hb4)
        clear hb4 hc3
        cases h2 : inB c 64 1000
        · have hng : ¬ GoodQ D := fun h => by
            have := h.2 x c HAt.out
            simp [okKV, h2] at this
          have HN := hide hng
          clear hng
          go_wp2_with fail
          go_ret
          exact ⟨false, rfl, by simp [HN.out], Hb4.out⟩
        · go_wp2_with fail
          go_roundw
          case rel => exact ⟨_, cnt2, Hrg4.out, Hseen.out.step HAt.out (by simp [okKV, h1, h2]), Hb4.out⟩
          case measure => rw [Hrg4.out.left_eq, hrg.left_eq]; exact Hlt.out
end Go.Proofs.YtojpjaifhjigfabGreatDoor

/- isConfig, and maps.Clone, newLasting, newBreakers, newAgent, Open: the program's side of opening. -/
namespace Go.Proofs.YtojpjaifhjigfabGreatDoor
open Go.RowKit Go.Maps

/-- More entries than any argument can bring. -/
abbrev big : Nat := 8796093022208
/-- The map value m (nil: none) reads as D. -/
def MapAt (w : World) (m : Option Nat) (D : DataW Unit) : Prop := (m = none ∧ D = .map []) ∨ ∃ b n, m = some b ∧ OM w b n D ∧ n ≤ big
theorem MapAt.below {w w' : World} {m : Option Nat} {D : DataW Unit} (h : MapAt w m D) {B : Nat} (hb : Below B w w') (hB : w.heap.size ≤ B) : MapAt w' m D := by
  rcases h with h | ⟨b, n, h1, h2, h3⟩
  · exact Or.inl h
  · exact Or.inr ⟨b, n, h1, om_below h2 hb (Nat.lt_of_lt_of_le h2.lt hB), h3⟩
theorem MapAt.alloc {w : World} {m : Option Nat} {D : DataW Unit} (h : MapAt w m D) (o : Obj) : MapAt (w.alloc o) m D := h.below ((Below.refl _ _).alloc (Nat.le_refl _) _) (Nat.le_refl _)

theorem areQuanta_any (m : Option Nat) (D : DataW Unit) (w : World) (h : MapAt w m D) : Calls Tryz.prog 31 #[.map m] w fun e w' => ∃ r, e = .returned (.bool r) ∧ (r = true ↔ GoodQ D) ∧ Below w.heap.size w w' := by
  rcases h with ⟨rfl, rfl⟩ | ⟨b, n, rfl, h2, _⟩
  · refine (areQuanta_nil w).mono ?_
    rintro e w' ⟨rfl, hb⟩
    exact ⟨false, rfl, ⟨fun h => (by cases h), fun h => absurd h.1.1 (by simp [Maps.size])⟩, hb⟩
  · exact areQuanta_some b n D w h2

def GoodC (c : Cfg) (D : DataW Unit) : Prop := c.numB = true ∧ GoodQ D ∧ thB c.th = true

set_option maxHeartbeats 400000 in
theorem isConfig_any (c : Cfg) (m : Option Nat) (D : DataW Unit) (w : World) (h : MapAt w m D) : Calls Tryz.prog 19 #[c.val m] w fun e w' => ∃ r, e = .returned (.bool r) ∧ (r = true ↔ GoodC c D) ∧ Below w.heap.size w w' := by
  have H := hide h
  clear h
  go_enter Tryz.func19, Tryz.ntmps19
  go_wp2_with fail
  refine (areNumbers_any _ _ _).mono ?_
  rintro e w1 ⟨rfl, hb1⟩
  obtain ⟨hc1, hf1⟩ := bcell hb1
  simp only [World.size_alloc] at hc1
  have Hb1 : Hid (Below w.heap.size w w1) := ((Below.refl _ _).alloc (Nat.le_refl _) _).trans (hb1.mono (by simp))
  have Hk1 := hide hb1
  clear hf1 hb1
  cases h1 : c.numB
  · have Hn : Hid (¬ GoodC c D) := fun h => by rw [h.1] at h1; cases h1
    go_wp2_with fail
    go_ret
    exact ⟨false, rfl, by simp [Hn.out], Hb1.out⟩
  · go_wp2_with fail
    refine (areQuanta_any m D _ ((H.out.alloc _).below Hk1.out (Nat.le_refl _))).mono ?_
    rintro e w2 ⟨r2, rfl, hr2, hb2⟩
    obtain ⟨hc2, hf2⟩ := bcell hb2
    have Hb2 : Hid (Below w.heap.size w w2) := Hb1.out.trans (hb2.mono Hb1.out.size)
    have hlt : w.heap.size < w1.heap.size := by have := Hk1.out.size; simp at this; omega
    clear hf2 hb2
    have Hr2 := hide hr2
    clear hr2
    cases r2
    · have Hn : Hid (¬ GoodC c D) := fun h => by have := Hr2.out.2 h.2.1; cases this
      go_wp2_with fail
      go_ret
      exact ⟨false, rfl, by simp [Hn.out], Hb2.out⟩
    · go_wp2_with fail
      refine (isThreshold_any _ _).mono ?_
      rintro e w3 ⟨rfl, rfl⟩
      have Hg : Hid (thB c.th = true ↔ GoodC c D) := ⟨fun h => ⟨h1, Hr2.out.1 (by trivial), h⟩, fun h => h.2.2⟩
      go_wp2_with fail
      go_ret
      exact ⟨thB c.th, rfl, Hg.out, Hb2.out⟩

end Go.Proofs.YtojpjaifhjigfabGreatDoor

/- Who owns which block: a ghost labelling of the heap; rows, blocks and maps with their labels; what a step leaves as it was. -/
namespace Go.Proofs.YtojpjaifhjigfabGreatDoor
open Go.RowKit Go.Maps

/-- What a block is to its owner. -/
inductive Part where
  | ag | tk | qm | qr (d : Int) (t : List UInt8) | dd | nm | rt | ol | cr (d : Nat) | th (d : Nat) | cm | ot (k n : Nat)

/-- Nobody's, or an owner's. -/
abbrev Lab := Option (Nat × Part)
abbrev Labs := Nat → Lab

/-- One block more has a label. -/
def lay (L : Labs) (g : Nat) (l : Lab) : Labs := fun k => if k = g then l else L k
theorem lay_same (L : Labs) (g : Nat) (l : Lab) : lay L g l g = l := by simp [lay]
theorem lay_other (L : Labs) {g k : Nat} (l : Lab) (h : k ≠ g) : lay L g l k = L k := by simp [lay, h]
theorem lay_below {L : Labs} {g : Nat} {l : Lab} {n : Nat} (h : L g = l ∨ n ≤ g) : ∀ k, k < n → lay L g l k = L k := fun k hk => by
  by_cases e : k = g
  · subst e
    rcases h with h | h
    · rw [lay_same, h]
    · omega
  · exact lay_other L l e

/-- Of the blocks that were there only such turn whose label is of p; the labels stay. -/
structure Step (p : Lab → Prop) (L : Labs) (w : World) (L' : Labs) (w' : World) : Prop where
  os : w'.os = w.os
  tape : w'.tape = w.tape
  output : w'.output = w.output
  size : w.heap.size ≤ w'.heap.size
  lab : ∀ k, k < w.heap.size → L' k = L k
  block : ∀ k, k < w.heap.size → ¬ p (L k) → w'.heap[k]? = w.heap[k]?

theorem Step.refl (p : Lab → Prop) (L : Labs) (w : World) : Step p L w L w := ⟨rfl, rfl, rfl, Nat.le_refl _, fun _ _ => rfl, fun _ _ _ => rfl⟩
theorem Step.trans {p : Lab → Prop} {L L1 L2 : Labs} {w w1 w2 : World} (h : Step p L w L1 w1) (k : Step p L1 w1 L2 w2) : Step p L w L2 w2 :=
  ⟨k.os.trans h.os, k.tape.trans h.tape, k.output.trans h.output, Nat.le_trans h.size k.size, fun i hi => (k.lab i (Nat.lt_of_lt_of_le hi h.size)).trans (h.lab i hi),
   fun i hi hp => (k.block i (Nat.lt_of_lt_of_le hi h.size) (by rw [h.lab i hi]; exact hp)).trans (h.block i hi hp)⟩
theorem Step.mono {p q : Lab → Prop} {L L1 : Labs} {w w1 : World} (h : Step p L w L1 w1) (hpq : ∀ l, p l → q l) : Step q L w L1 w1 := ⟨h.os, h.tape, h.output, h.size, h.lab, fun k hk hn => h.block k hk (fun hp => hn (hpq _ hp))⟩
theorem Step.of_below {p : Lab → Prop} {L : Labs} {w w' : World} (h : Below w.heap.size w w') : Step p L w L w' := ⟨h.os, h.tape, h.output, h.size, fun _ _ => rfl, fun k hk _ => h.block k hk⟩
theorem Step.of_below' {p : Lab → Prop} {L L' : Labs} {w w' : World} (h : Below w.heap.size w w') (hl : ∀ k, k < w.heap.size → L' k = L k) : Step p L w L' w' := ⟨h.os, h.tape, h.output, h.size, hl, fun k hk _ => h.block k hk⟩
theorem Step.of_grown {p : Lab → Prop} {L L' : Labs} {w w' : World} {row : Option Nat} (h : w.grownBy w' row) (hr : ∀ j, row = some j → p (L j)) (hl : ∀ k, k < w.heap.size → L' k = L k) : Step p L w L' w' :=
  ⟨h.os, h.tape, h.output, h.size, hl, fun k hk hn => h.block k hk (fun e => hn (hr k e.symm))⟩
theorem Step.setCell {p : Lab → Prop} (L : Labs) (w : World) (a : Addr) (v : Value) (hp : p (L a.block)) : Step p L w L (w.setCell a v) :=
  ⟨rfl, rfl, rfl, by simp [World.setCell], fun _ _ => rfl, fun k _ hn => Below.heap_setCell _ _ _ _ (fun e => hn (by rw [e]; exact hp))⟩
theorem Step.setCells {p : Lab → Prop} (L : Labs) {b : Nat} (hp : p (L b)) (vs : List Value) : ∀ (w : World) (o : Nat), Step p L w L (w.setCells b o vs) := by
  induction vs with
  | nil => exact fun w _ => Step.refl p L w
  | cons v r ih => exact fun w o => (Step.setCell L w ⟨b, o, none⟩ v hp).trans (ih _ (o + 1))
theorem Step.alloc {p : Lab → Prop} (L : Labs) (w : World) (o : Obj) : Step p L w L (w.alloc o) := Step.of_below ((Below.refl _ _).alloc (Nat.le_refl _) o)
theorem Step.drew {p : Lab → Prop} (L : Labs) (w : World) : Step p L w L w.drew := ⟨rfl, rfl, rfl, Nat.le_refl _, fun _ _ => rfl, fun _ _ _ => rfl⟩
theorem Step.drewN {p : Lab → Prop} (L : Labs) (w : World) (n : Nat) : Step p L w L (w.drewN n) := ⟨rfl, rfl, rfl, Nat.le_refl _, fun _ _ => rfl, fun _ _ _ => rfl⟩
theorem Step.below {p : Lab → Prop} {L L' : Labs} {w w' : World} (h : Step p L w L' w') {B : Nat} (hB : B ≤ w.heap.size) (hn : ∀ k, k < B → ¬ p (L k)) : Below B w w' := ⟨h.os, h.tape, h.output, h.size, fun k hk => h.block k (by omega) (hn k hk)⟩

/-- A block with its label. -/
def BlkAt (w : World) (L : Labs) (l : Lab) (g : Nat) (cur : Array Value) (e : TypeId) : Prop := Blk w g cur e ∧ L g = l
theorem BlkAt.keep {w w' : World} {L L' : Labs} {l : Lab} {g : Nat} {cur : Array Value} {e : TypeId} (h : BlkAt w L l g cur e) {p : Lab → Prop} (s : Step p L w L' w') (hp : ¬ p l) : BlkAt w' L' l g cur e := by
  obtain ⟨h1, h2⟩ := h
  refine ⟨?_, (s.lab g h1.lt).trans h2⟩
  unfold Blk
  rw [s.block g h1.lt (by rw [h2]; exact hp)]
  exact h1

/-- A row with its label. -/
def RowAt (w : World) (L : Labs) (l : Lab) (e : TypeId) (size : Nat) (v : Value) (n : Nat) (xs : List Value) : Prop := w.ownsRow 0 e size v n xs ∧ ∀ g, v.ownBlock = some g → L g = l
theorem RowAt.keep {w w' : World} {L L' : Labs} {l : Lab} {e : TypeId} {size : Nat} {v : Value} {n : Nat} {xs : List Value} (h : RowAt w L l e size v n xs) {p : Lab → Prop} (s : Step p L w L' w') (hp : ¬ p l) : RowAt w' L' l e size v n xs := by
  obtain ⟨⟨h1, h2⟩, h3⟩ := h
  rcases h2 with ⟨rfl, h2⟩ | ⟨g, cap, cur, rfl, hg, hb, r⟩
  · exact ⟨⟨h1, Or.inl ⟨rfl, h2⟩⟩, fun g hg => by simp [Value.ownBlock] at hg⟩
  · have hlt := (Array.getElem?_eq_some_iff.1 hb).1
    have hl := h3 g (by simp [Value.ownBlock])
    refine ⟨⟨h1, Or.inr ⟨g, cap, cur, rfl, hg, ?_, r⟩⟩, fun g' hg' => ?_⟩
    · rw [s.block g hlt (by rw [hl]; exact hp)]; exact hb
    · obtain rfl : g = g' := by simpa [Value.ownBlock] using hg'
      exact (s.lab g hlt).trans hl
theorem RowAt.nil (w : World) (L : Labs) (l : Lab) (e : TypeId) (size : Nat) : RowAt w L l e size (.slice none 0 0) 0 [] := ⟨World.ownsRow_nil _ _ _ _, fun g hg => by simp [Value.ownBlock] at hg⟩
theorem RowAt.shape {w : World} {L : Labs} {l : Lab} {e : TypeId} {size : Nat} {v : Value} {n : Nat} {xs : List Value} (h : RowAt w L l e size v n xs) : ∃ a cap, v = .slice a n cap ∧ n ≤ maxLen := by
  rcases h.1.2 with ⟨rfl, rfl⟩ | ⟨g, cap, cur, rfl, _, _, h1, h2, _⟩
  · exact ⟨none, 0, rfl, Nat.zero_le _⟩
  · exact ⟨_, _, rfl, Nat.le_trans h1 h2⟩
/-- A row with something in it: where it lies, and each cell. -/
theorem RowAt.head {w : World} {L : Labs} {l : Lab} {e : TypeId} {size : Nat} {a : Option Addr} {k n : Nat} {xs : List Value} (h : RowAt w L l e size (.slice a n k) n xs) (h0 : 0 < n) :
    ∃ g, a = some ⟨g, 0, none⟩ ∧ g < w.heap.size ∧ L g = l ∧ (∀ i v, xs[i]? = some v → w.cell? ⟨g, i, none⟩ = some v) ∧ (∀ i, w.frozen? ⟨g, i, none⟩ = false) := by
  rcases h.1.2 with ⟨_, h1⟩ | ⟨g, cap, cur, h1, h2, h3, h4, h5, h6, h7⟩
  · omega
  · simp only [Value.slice.injEq, true_and] at h1
    obtain ⟨rfl, rfl⟩ := h1
    have hb : Blk w g cur e := h3
    refine ⟨g, rfl, hb.lt, h.2 g (by simp [Value.ownBlock]), fun i v hv => ?_, fun i => hb.frozen i⟩
    rw [hb.cell i]
    rw [← h7] at hv
    have hi : i < n * size := by
      have := (List.getElem?_eq_some_iff.1 hv).1
      rw [List.length_take] at this; omega
    rw [List.getElem?_take_of_lt hi] at hv
    simpa using hv
/-- A store into a row. -/
theorem RowAt.set {w : World} {L : Labs} {l : Lab} {e : TypeId} {size g k n : Nat} {xs : List Value} (h : RowAt w L l e size (.slice (some ⟨g, 0, none⟩) n k) n xs) (i : Nat) (u : Value) :
    RowAt (w.setCell ⟨g, i, none⟩ u) L l e size (.slice (some ⟨g, 0, none⟩) n k) n (xs.set i u) := by
  refine ⟨?_, h.2⟩
  obtain ⟨h1, h2⟩ := h.1
  refine ⟨by simpa using h1, ?_⟩
  rcases h2 with ⟨h2, _⟩ | ⟨g', cap, cur, h1', h2, h3, h4, h5, h6, h7⟩
  · cases h2
  · simp only [Value.slice.injEq, true_and, Option.some.injEq, Addr.mk.injEq, and_true] at h1'
    obtain ⟨rfl, rfl⟩ := h1'
    refine Or.inr ⟨g, k, cur.setIfInBounds i u, rfl, h2, heap_setCell_same w g i cur e u h3, h4, h5, by simpa using h6, ?_⟩
    rw [Array.toList_setIfInBounds, List.take_set, h7]
/-- A run of stores into a row. -/
theorem RowAt.setCells {L : Labs} {l : Lab} {e : TypeId} {size g k n : Nat} (vs : List Value) : ∀ {w : World} {xs : List Value} (o : Nat), RowAt w L l e size (.slice (some ⟨g, 0, none⟩) n k) n xs → ∃ ys, RowAt (w.setCells g o vs) L l e size (.slice (some ⟨g, 0, none⟩) n k) n ys ∧ ys = (vs.zipIdx.foldl (fun acc p => acc.set (o + p.2) p.1) xs) := by
  induction vs with
  | nil => exact fun o h => ⟨_, h, rfl⟩
  | cons v r ih =>
    intro w xs o h
    obtain ⟨ys, h1, h2⟩ := ih (o + 1) (h.set o v)
    refine ⟨ys, h1, ?_⟩
    rw [h2, List.zipIdx_cons, List.foldl_cons, List.zipIdx_succ, List.foldl_map]
    simp only [Nat.add_zero, Nat.add_assoc, Nat.add_comm 1]
/-- Behind an append that says where the new row lies. -/
theorem RowAt.appended {w0 w' : World} {L : Labs} {l : Lab} {e : TypeId} {size g cap n m : Nat} {v : Value} {xs ys : List Value} (h : RowAt w0 L l e size v n xs) (hown : w'.ownsRow 0 e size (.slice (some ⟨g, 0, none⟩) m cap) m ys)
    (hat : v.ownBlock = some g ∨ w0.heap.size ≤ g) : RowAt w' (lay L g l) l e size (.slice (some ⟨g, 0, none⟩) m cap) m ys ∧ ∀ k, k < w0.heap.size → lay L g l k = L k := by
  refine ⟨⟨hown, fun g' hg' => ?_⟩, lay_below (hat.imp (fun e => h.2 g e) id)⟩
  obtain rfl : g = g' := by simpa [Value.ownBlock] using hg'
  exact lay_same _ _ _

theorem splice_toList : ∀ (l : List Value) (cs : Array Value) (o : Nat), o + l.length ≤ cs.size → (splice cs o l).toList = cs.toList.take o ++ l ++ cs.toList.drop (o + l.length) := by
  intro l
  induction l with
  | nil => intro cs o _; simp [splice]
  | cons v r ih =>
    intro cs o h
    simp only [splice]
    simp only [List.length_cons] at h
    rw [ih _ _ (by simp; omega)]
    simp only [Array.toList_setIfInBounds, List.length_cons]
    have ho : o < cs.toList.length := by simp; omega
    rw [List.take_succ_eq_append_getElem (by simpa using ho), List.take_set_of_le (Nat.le_refl _), List.drop_set_of_lt (by omega)]
    simp [Nat.add_assoc, Nat.add_comm 1]
theorem splice_size : ∀ (l : List Value) (cs : Array Value) (o : Nat), (splice cs o l).size = cs.size := by
  intro l
  induction l with
  | nil => intro cs o; rfl
  | cons v r ih => intro cs o; simp only [splice]; rw [ih]; simp
theorem splice_take {l : List Value} {cs : Array Value} {o : Nat} (h : o + l.length ≤ cs.size) : (splice cs o l).toList.take (o + l.length) = cs.toList.take o ++ l := by
  rw [splice_toList _ _ _ h, List.take_append_of_le_length (by simp; omega), List.take_of_length_le (by simp; omega)]

/-- A map with its label (a map is known by what ownsMap says of it). -/
def OMapAt {H : Type} (w : World) (L : Labs) (l : Lab) (P : Program) (k : TypeId) (R : Value → Option (DataW H × List MemPlace)) (b n : Nat) (D : DataW H) : Prop := w.ownsMap P k R b n D ∧ L b = l
theorem ownsMap_of_block {H : Type} {w w' : World} {P : Program} {k : TypeId} {R : Value → Option (DataW H × List MemPlace)} {b n : Nat} {D : DataW H} (h : w.ownsMap P k R b n D) (e : w'.heap[b]? = w.heap[b]?) : w'.ownsMap P k R b n D := by
  obtain ⟨es, clock, hb, r⟩ := h
  exact ⟨es, clock, e.trans hb, r⟩
theorem OMapAt.keep {H : Type} {w w' : World} {L L' : Labs} {l : Lab} {P : Program} {k : TypeId} {R : Value → Option (DataW H × List MemPlace)} {b n : Nat} {D : DataW H} (h : OMapAt w L l P k R b n D) {p : Lab → Prop} (s : Step p L w L' w') (hp : ¬ p l) : OMapAt w' L' l P k R b n D :=
  ⟨ownsMap_of_block h.1 (s.block b h.1.lt (by rw [h.2]; exact hp)), (s.lab b h.1.lt).trans h.2⟩

end Go.Proofs.YtojpjaifhjigfabGreatDoor

/- The program's agent: what it holds, as plain data; and how that lies in memory. -/
namespace Go.Proofs.YtojpjaifhjigfabGreatDoor
open Go.RowKit Go.Maps

/-- A batch that was taken, and what has become of it. -/
structure Bat where
  dst : Int
  ten : List UInt8
  id : List UInt8
  body : List UInt8
  st : Int
  fl : Int
def Bat.cells (b : Bat) : List Value := [.int .i64 b.dst, encStr b.ten, encStr b.id, encStr b.body, .int .i64 b.st, .int .i64 b.fl]
theorem Bat.cells_length (b : Bat) : b.cells.length = 6 := rfl
/-- When a batch may go again. -/
structure Ret where
  fr : Int
  pa : Int
def Ret.cells (r : Ret) : List Value := [.int .i64 r.fr, .int .i64 r.pa]
/-- A destination. -/
structure Out where
  res : Int
  fl : Int
  trip : Bool
  unt : Int
  turn : Nat
  cr : List Int
  sends : Int
  way : Int
  began : Int
def Out.cells (o : Out) (fv cv : Value) : List Value := [fv, .int .i64 o.res, .int .i64 o.fl, .bool o.trip, .int .i64 o.unt, .int .i64 o.turn, cv, .int .i64 o.sends, .int .i64 o.way, .int .i64 o.began]
/-- An agent. -/
structure Ag where
  c : Cfg
  D : DataW Unit
  ns : List (List UInt8)
  bs : List Bat
  dead : List Nat
  log : List UInt8
  now : Int
  rt : List Ret
  os : List Out

/-- The places of a lane's pending batches. -/
def pend (bs : List Bat) (d : Int) (t : List UInt8) : List Nat := (bs.zipIdx.filter fun p => decide (p.1.dst = d) && decide (p.1.ten = t) && decide (p.1.st = 1)).map (·.2)
def ints (l : List Nat) : List Value := l.map fun n : Nat => .int .i64 (n : Int)
def intsI (l : List Int) : List Value := l.map fun n => .int .i64 n

/-- How a lane reads as a key. -/
def laneKey (d : Int) (t : List UInt8) : Lit := .string (keyBytes [.int .i64 d, .string t])
def laneVal (d : Int) (t : List UInt8) : Value := .agg #[.int .i64 d, encStr t]
/-- An element of the map of queues reads as the slice that it is. -/
def Rq (v : Value) : Option (DataW Value × List MemPlace) := match v with | .slice _ _ _ => some (.held v, []) | _ => none
/-- The slice at a lane (nil, where there is none). -/
def hdr (D : DataW Value) (d : Int) (t : List UInt8) : Value := match D.atKey (laneKey d t) (.held (.slice none 0 0)) with | .held v => v | _ => .slice none 0 0

/-- A lane that can be a key. -/
def LaneOk (d : Int) (t : List UInt8) : Prop := (Lit.int .i64 d).wf = true ∧ t.length ≤ maxLen
/-- The queues: a map from lanes to rows of places, each row with a label of its own. -/
def QueuesAt (w : World) (L : Labs) (who b : Nat) (bs : List Bat) : Prop :=
  ∃ D : DataW Value, OMapAt w L (some (who, .qm)) Tryz.prog 175 Rq b (Maps.size D) D ∧ Maps.size D ≤ bs.length ∧ (∀ d t, LaneOk d t → Maps.has D (laneKey d t) = true → 0 ≤ d ∧ d < 4) ∧
    (∀ d t, LaneOk d t → pend bs d t ≠ [] → Maps.has D (laneKey d t) = true) ∧ ∀ d t, LaneOk d t → RowAt w L (some (who, .qr d t)) 3 1 (hdr D d t) (pend bs d t).length (ints (pend bs d t))

/-- A destination in memory: what its breaker asks, and its credits. -/
def OutAt (w : World) (L : Labs) (who i : Nat) (th : Nat) (o : Out) (fv cv : Value) : Prop :=
  ∃ g, fv = .func (.func 80) #[] #[.pointer (some ⟨g, 0, none⟩)] ∧ BlkAt w L (some (who, .th 0)) g #[.float .f64 th] 28 ∧ RowAt w L (some (who, .cr i)) 3 1 cv o.cr.length (intsI o.cr)
/-- All destinations: the row's cells are those of each, in order. -/
def OutsAt (w : World) (L : Labs) (who th : Nat) (v : Value) (os : List Out) : Prop :=
  ∃ fs : List (Value × Value), fs.length = os.length ∧ RowAt w L (some (who, .ol)) 130 10 v os.length ((os.zip fs).flatMap fun p => p.1.cells p.2.1 p.2.2) ∧
    ∀ i o f, os[i]? = some o → fs[i]? = some f → OutAt w L who i th o f.1 f.2

def agCells (bq bm : Nat) (tv dv nv rv ov : Value) (M : Ag) : Array Value :=
  #[tv, .map (some bq), dv, encStr M.log, .int .i64 M.c.d, .map (some bm), .int .i64 M.c.q, .int .i64 M.c.at', .int .i64 M.c.ba, .int .i64 M.c.ca, .int .i64 M.c.ti, .int .i64 M.c.wi, .int .i64 M.c.le, .float .f64 M.c.th, .int .i64 M.c.op, nv, .int .i64 M.now, rv, ov]

/-- Where an agent's parts lie. -/
structure AgAt (w : World) (L : Labs) (who g : Nat) (M : Ag) (bq bm cn : Nat) (tv dv nv rv ov : Value) : Prop where
  blk : BlkAt w L (some (who, .ag)) g (agCells bq bm tv dv nv rv ov M) 65
  tk : RowAt w L (some (who, .tk)) 73 6 tv M.bs.length (M.bs.flatMap Bat.cells)
  qs : QueuesAt w L who bq M.bs
  dd : RowAt w L (some (who, .dd)) 3 1 dv M.dead.length (ints M.dead)
  nm : RowAt w L (some (who, .nm)) 9 1 nv M.ns.length (M.ns.map encStr)
  rt : RowAt w L (some (who, .rt)) 101 2 rv M.rt.length (M.rt.flatMap Ret.cells)
  ol : OutsAt w L who M.c.th ov M.os
  cm : OMapAt w L (some (who, .cm)) Tryz.prog 9 (plainElem Tryz.prog 3) bm cn M.D
/-- An agent in memory. -/
def AgentAt (w : World) (L : Labs) (who g : Nat) (M : Ag) : Prop := ∃ bq bm cn tv dv nv rv ov, AgAt w L who g M bq bm cn tv dv nv rv ov

/-- What belongs to one owner. -/
def ofP (who : Nat) : Lab → Prop := fun l => ∃ q, l = some (who, q)
theorem not_ofP {who who' : Nat} (h : who ≠ who') (q : Part) : ¬ ofP who (some (who', q)) := fun ⟨q', e⟩ => by simp at e; omega

theorem QueuesAt.keep {w w' : World} {L L' : Labs} {who b : Nat} {bs : List Bat} (h : QueuesAt w L who b bs) {p : Lab → Prop} (s : Step p L w L' w') (h1 : ¬ p (some (who, .qm))) (h2 : ∀ d t, ¬ p (some (who, .qr d t))) : QueuesAt w' L' who b bs := by
  obtain ⟨D, q1, q2, q3, q4, q5⟩ := h
  exact ⟨D, q1.keep s h1, q2, q3, q4, fun d t h => (q5 d t h).keep s (h2 d t)⟩
theorem OutsAt.keep {w w' : World} {L L' : Labs} {who th : Nat} {v : Value} {os : List Out} (h : OutsAt w L who th v os) {p : Lab → Prop} (s : Step p L w L' w') (h1 : ¬ p (some (who, .ol))) (h2 : ∀ i, ¬ p (some (who, .th i))) (h3 : ∀ i, ¬ p (some (who, .cr i))) : OutsAt w' L' who th v os := by
  obtain ⟨fs, q1, q2, q3⟩ := h
  refine ⟨fs, q1, q2.keep s h1, fun i o f ho hf => ?_⟩
  obtain ⟨g, r1, r2, r3⟩ := q3 i o f ho hf
  exact ⟨g, r1, r2.keep s (h2 0), r3.keep s (h3 i)⟩
theorem AgAt.keep {w w' : World} {L L' : Labs} {who g : Nat} {M : Ag} {bq bm cn : Nat} {tv dv nv rv ov : Value} (h : AgAt w L who g M bq bm cn tv dv nv rv ov) {p : Lab → Prop} (s : Step p L w L' w') (hp : ∀ q, ¬ p (some (who, q))) : AgAt w' L' who g M bq bm cn tv dv nv rv ov :=
  ⟨h.blk.keep s (hp _), h.tk.keep s (hp _), h.qs.keep s (hp _) (fun _ _ => hp _), h.dd.keep s (hp _), h.nm.keep s (hp _), h.rt.keep s (hp _), h.ol.keep s (hp _) (fun _ => hp _) (fun _ => hp _), h.cm.keep s (hp _)⟩
theorem AgentAt.keep {w w' : World} {L L' : Labs} {who g : Nat} {M : Ag} (h : AgentAt w L who g M) {p : Lab → Prop} (s : Step p L w L' w') (hp : ∀ q, ¬ p (some (who, q))) : AgentAt w' L' who g M := by
  obtain ⟨bq, bm, nm, tv, dv, nv, rv, ov, h⟩ := h
  exact ⟨bq, bm, nm, tv, dv, nv, rv, ov, h.keep s hp⟩
theorem AgentAt.other {w w' : World} {L L' : Labs} {who who' g : Nat} {M : Ag} (h : AgentAt w L who' g M) (s : Step (ofP who) L w L' w') (hne : who ≠ who') : AgentAt w' L' who' g M := h.keep s (fun q => not_ofP hne q)

theorem pend_nil (d : Int) (t : List UInt8) : pend [] d t = [] := rfl

/-- An agent that has taken nothing. -/
def Ag.new (c : Cfg) (D : DataW Unit) (ns : List (List UInt8)) : Ag :=
  { c := c, D := D, ns := ns, bs := [], dead := [], log := [], now := 0, rt := [], os := List.replicate c.d.toNat { res := 0, fl := 0, trip := false, unt := 0, turn := 0, cr := List.replicate ns.length 0, sends := 0, way := -1, began := 0 } }

end Go.Proofs.YtojpjaifhjigfabGreatDoor
