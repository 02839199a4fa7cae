/- Steps of the proof (several texts in one): Focus, Breaker, Lays, Lib. -/
import Derived.Test.YtojpjaifhjigfaaGreatDoorMAllupto05
import Derived.Laws.FloatArith
import Derived.Shelf.SlGeneric
import Derived.Shelf.Strconv.Clone
import Derived.Shelf.Bits.Mul64
import Derived.Shelf.SlIter.Nil
import Derived.Shelf.SortM.Plain
import Derived.Shelf.SortM.SortNone
import Derived.Shelf.SlicesE.DeleteFunc
import Derived.Shelf.SlicesE.IndexFunc
import Derived.Ground.GgzProg
import Derived.Ground.SlgmProg
import Derived.Ground.SlgfProg
import Derived.Test.YtojpjaifhjigfaaGreatDoorProg

/- One destination of an agent: its cells, and how a store turns it. -/
namespace Go.Proofs.YtojpjaifhjigfaaGreatDoor
open Go.RowKit Go.Maps

def olP (who : Nat) : Lab → Prop := fun l => l = some (who, .ol)

/-- The destinations, one of which is this. -/
def OutF (w : World) (L : Labs) (who th go k : Nat) (os : List Out) (d : Nat) (o : Out) : Prop := d < os.length ∧ OutsAt w L who th (.slice (some ⟨go, 0, none⟩) os.length k) (os.set d o)

theorem OutF.keep {w w' : World} {L L' : Labs} {who th go k d : Nat} {os : List Out} {o : Out} (h : OutF w L who th go k os d o) {p : Lab → Prop} (s : Step p L w L' w') (h1 : ¬ p (some (who, .ol))) (h2 : ∀ i, ¬ p (some (who, .th i))) (h3 : ∀ i, ¬ p (some (who, .cr i))) : OutF w' L' who th go k os d o := ⟨h.1, h.2.keep s h1 h2 h3⟩
theorem set_zip {α β : Type} : ∀ (l : List α) (m : List β) (d : Nat) (a : α) (b : β), m[d]? = some b → (l.set d a).zip m = (l.zip m).set d (a, b)
  | [], m, d, a, b, h => by simp
  | x :: l, [], d, a, b, h => by simp at h
  | x :: l, y :: m, 0, a, b, h => by simp at h; simp [h]
  | x :: l, y :: m, d + 1, a, b, h => by simp at h; simp [set_zip l m d a b h]

/-- A store into a cell of it. -/
theorem OutF.put {w : World} {L : Labs} {who th go k d : Nat} {os : List Out} {o : Out} (h : OutF w L who th go k os d o) (j : Nat) (v : Value) (o' : Out) (hj : j < 10) (hcr : o'.cr = o.cr) (hc : ∀ fv cv, o'.cells fv cv = (o.cells fv cv).set j v) :
    OutF (w.setCell ⟨go, d * 10 + j, none⟩ v) L who th go k os d o' ∧ Step (olP who) L w L (w.setCell ⟨go, d * 10 + j, none⟩ v) := by
  obtain ⟨hd, fs, hfl, hrow, hall⟩ := h
  simp only [List.length_set] at hfl hrow
  have hs : Step (olP who) L w L (w.setCell ⟨go, d * 10 + j, none⟩ v) := Step.setCell _ _ _ _ (hrow.2 go (by simp [Value.ownBlock]))
  obtain ⟨f, hf⟩ : ∃ f, fs[d]? = some f := ⟨_, List.getElem?_eq_getElem (by omega)⟩
  refine ⟨⟨hd, fs, by simpa using hfl, ?_, fun i x f' hx hf' => ?_⟩, hs⟩
  · have hr := hrow.set (d * 10 + j) v
    have hz : ((os.set d o).zip fs)[d]? = some (o, f) := by simp [List.getElem?_zip_eq_some, hd, hf]
    have e := flat_set (fun p : Out × Value × Value => p.1.cells p.2.1 p.2.2) 10 (fun _ => rfl) ((os.set d o).zip fs) d j (o, f) (o', f) v hj hz (hc f.1 f.2)
    have e2 := set_zip (os.set d o) fs d o' f hf
    rw [List.set_set] at e2
    rw [← e2] at e
    simp only [List.length_set]
    rw [← e]
    exact hr
  · by_cases e : i = d
    · subst e
      obtain rfl : x = o' := by simpa [hd, eq_comm] using hx
      obtain ⟨g, r1, r2, r3⟩ := hall i o f' (by simp [hd]) hf'
      refine ⟨g, r1, r2.keep hs (by simp [olP]), ?_⟩
      rw [hcr]
      exact r3.keep hs (by simp [olP])
    · have hx' : (os.set d o)[i]? = some x := by
        rw [List.getElem?_set_ne (fun e' => e e'.symm)] at hx ⊢
        exact hx
      obtain ⟨g, r1, r2, r3⟩ := hall i x f' hx' hf'
      exact ⟨g, r1, r2.keep hs (by simp [olP]), r3.keep hs (by simp [olP])⟩

/-- Its cells. -/
structure OutCells (w : World) (L : Labs) (who th go d : Nat) (o : Out) (g : Nat) (ca : Option Addr) (ck : Nat) : Prop where
  c0 : w.cell? ⟨go, d * 10, none⟩ = some (.func (.func 152) #[] #[.pointer (some ⟨g, 0, none⟩)])
  cg : w.cell? ⟨g, 0, none⟩ = some (.float .f64 th)
  c1 : w.cell? ⟨go, d * 10 + 1, none⟩ = some (.int .i64 o.res)
  c2 : w.cell? ⟨go, d * 10 + 2, none⟩ = some (.int .i64 o.fl)
  c3 : w.cell? ⟨go, d * 10 + 3, none⟩ = some (.bool o.trip)
  c4 : w.cell? ⟨go, d * 10 + 4, none⟩ = some (.int .i64 o.unt)
  c5 : w.cell? ⟨go, d * 10 + 5, none⟩ = some (.int .i64 o.turn)
  c6 : w.cell? ⟨go, d * 10 + 6, none⟩ = some (.slice ca o.cr.length ck)
  c7 : w.cell? ⟨go, d * 10 + 7, none⟩ = some (.int .i64 o.sends)
  c8 : w.cell? ⟨go, d * 10 + 8, none⟩ = some (.int .i64 o.way)
  c9 : w.cell? ⟨go, d * 10 + 9, none⟩ = some (.int .i64 o.began)
  fz : ∀ i, w.frozen? ⟨go, i, none⟩ = false
  lt : go < w.heap.size
  lg : g < w.heap.size
  lab : L go = some (who, .ol)
  cr : RowAt w L (some (who, .cr d)) 3 1 (.slice ca o.cr.length ck) o.cr.length (intsI o.cr)
theorem OutF.cells {w : World} {L : Labs} {who th go k d : Nat} {os : List Out} {o : Out} (h : OutF w L who th go k os d o) : ∃ g ca ck, OutCells w L who th go d o g ca ck := by
  obtain ⟨hd, fs, hfl, hrow, hall⟩ := h
  simp only [List.length_set] at hfl hrow
  obtain ⟨f, hf⟩ : ∃ f, fs[d]? = some f := ⟨_, List.getElem?_eq_getElem (by omega)⟩
  obtain ⟨g, r1, r2, r3⟩ := hall d o f (by simp [hd]) hf
  obtain ⟨g', e, hlt, hlab, hcell, hfz⟩ := hrow.head (by omega)
  obtain rfl : go = g' := by simpa using e
  have hz : ((os.set d o).zip fs)[d]? = some (o, f) := by simp [List.getElem?_zip_eq_some, hd, hf]
  obtain ⟨f1, f2⟩ := f
  simp only at r1
  subst r1
  obtain ⟨ca, ck, rfl, _⟩ := r3.shape
  have hc := fun j v (hj : j < 10) hv => hcell (d * 10 + j) v (flat_cell (fun p : Out × Value × Value => p.1.cells p.2.1 p.2.2) 10 (fun _ => rfl) hz hj hv)
  exact ⟨g, ca, ck, ⟨hc 0 _ (by omega) rfl, r2.1.cell 0, hc 1 _ (by omega) rfl, hc 2 _ (by omega) rfl, hc 3 _ (by omega) rfl, hc 4 _ (by omega) rfl, hc 5 _ (by omega) rfl, hc 6 _ (by omega) rfl, hc 7 _ (by omega) rfl, hc 8 _ (by omega) rfl, hc 9 _ (by omega) rfl, hfz, hlt, r2.1.lt, hlab, r3⟩⟩

/-- A store into its credits. -/
theorem OutF.credit {w : World} {L : Labs} {who th go k d : Nat} {os : List Out} {o : Out} {g gc ck : Nat} (h : OutF w L who th go k os d o) (hC : OutCells w L who th go d o g (some ⟨gc, 0, none⟩) ck) (t : Nat) (v : Int) :
    OutF (w.setCell ⟨gc, t, none⟩ (.int .i64 v)) L who th go k os d { o with cr := o.cr.set t v } ∧ Step (fun l => l = some (who, .cr d)) L w L (w.setCell ⟨gc, t, none⟩ (.int .i64 v)) := by
  obtain ⟨hd, fs, hfl, hrow, hall⟩ := h
  simp only [List.length_set] at hfl hrow
  have hs : Step (fun l => l = some (who, .cr d)) L w L (w.setCell ⟨gc, t, none⟩ (.int .i64 v)) := Step.setCell _ _ _ _ (hC.cr.2 gc (by simp [Value.ownBlock]))
  obtain ⟨f, hf⟩ : ∃ f, fs[d]? = some f := ⟨_, List.getElem?_eq_getElem (by omega)⟩
  have hz : ((os.set d o).zip fs)[d]? = some (o, f) := by simp [List.getElem?_zip_eq_some, hd, hf]
  have hf2 : f.2 = .slice (some ⟨gc, 0, none⟩) o.cr.length ck := by
    obtain ⟨g', e, hlt, hlab, hcell, hfz⟩ := hrow.head (by omega)
    obtain rfl : go = g' := by simpa using e
    have := hcell (d * 10 + 6) _ (flat_cell (fun p : Out × Value × Value => p.1.cells p.2.1 p.2.2) 10 (fun _ => rfl) hz (j := 6) (by omega) rfl)
    rw [hC.c6] at this
    simpa using this.symm
  refine ⟨⟨hd, fs, by simpa using hfl, ?_, fun i x f' hx hf' => ?_⟩, hs⟩
  · have hr := hrow.keep hs (by simp)
    have e : (((os.set d o).zip fs).flatMap fun p : Out × Value × Value => p.1.cells p.2.1 p.2.2) = (((os.set d { o with cr := o.cr.set t v }).zip fs).flatMap fun p : Out × Value × Value => p.1.cells p.2.1 p.2.2) := by
      rw [set_zip os fs d o f hf, set_zip os fs d _ f hf]
      apply List.ext_getElem?
      intro i
      have h10 : i = i / 10 * 10 + i % 10 := by omega
      rw [h10, flat_get (fun p : Out × Value × Value => p.1.cells p.2.1 p.2.2) 10 (fun _ => rfl) _ _ _ (by omega), flat_get (fun p : Out × Value × Value => p.1.cells p.2.1 p.2.2) 10 (fun _ => rfl) _ _ _ (by omega)]
      by_cases e : d = i / 10
      · subst e
        simp only [List.getElem?_set, if_true]
        split <;> rfl
      · rw [List.getElem?_set_ne e, List.getElem?_set_ne e]
    simp only [List.length_set]
    rw [← e]
    exact hr
  · by_cases e : i = d
    · subst e
      obtain rfl : x = { o with cr := o.cr.set t v } := by simpa [hd, eq_comm] using hx
      obtain rfl : f = f' := by rw [hf] at hf'; exact Option.some.inj hf'
      obtain ⟨g', r1, r2, r3⟩ := hall i o f (by simp [hd]) hf
      refine ⟨g', r1, r2.keep hs (by simp), ?_⟩
      rw [hf2] at r3 ⊢
      have := r3.set t (.int .i64 v)
      simpa [intsI, List.map_set] using this
    · have hx' : (os.set d o)[i]? = some x := by
        rw [List.getElem?_set_ne (fun e' => e e'.symm)] at hx ⊢
        exact hx
      obtain ⟨g', r1, r2, r3⟩ := hall i x f' hx' hf'
      exact ⟨g', r1, r2.keep hs (by simp), r3.keep hs (by simp; exact e)⟩

/-- An agent's parts beside its destinations. -/
theorem AgAt.outs {w w' : World} {L L' : Labs} {who g : Nat} {M : Ag} {bq bm cn : Nat} {tv dv nv rv ov : Value} {os : List Out} (h : AgAt w L who g M bq bm cn tv dv nv rv ov) {p : Lab → Prop} (s : Step p L w L' w') (hp : ∀ q, p (some (who, q)) → q = .ol ∨ ∃ d, q = .cr d) (ho : OutsAt w' L' who M.c.th ov os) : AgAt w' L' who g { M with os := os } bq bm cn tv dv nv rv ov :=
  ⟨h.blk.keep s (fun e => by rcases hp _ e with e | ⟨d, e⟩ <;> cases e), h.tk.keep s (fun e => by rcases hp _ e with e | ⟨d, e⟩ <;> cases e), h.qs.keep s (fun e => by rcases hp _ e with e | ⟨d, e⟩ <;> cases e) (fun _ _ e => by rcases hp _ e with e | ⟨d, e⟩ <;> cases e), h.dd.keep s (fun e => by rcases hp _ e with e | ⟨d, e⟩ <;> cases e), h.nm.keep s (fun e => by rcases hp _ e with e | ⟨d, e⟩ <;> cases e), h.rt.keep s (fun e => by rcases hp _ e with e | ⟨d, e⟩ <;> cases e), ho, h.cm.keep s (fun e => by rcases hp _ e with e | ⟨d, e⟩ <;> cases e)⟩
theorem set_self {α : Type} (l : List α) (d : Nat) (a : α) (h : l[d]? = some a) : l.set d a = l := by
  apply List.ext_getElem?
  intro i
  rw [List.getElem?_set]
  by_cases e : d = i
  · subst e
    rw [if_pos rfl, if_pos (List.getElem?_eq_some_iff.1 h).1, h]
  · rw [if_neg e]
/-- The destination of this place of an agent. -/
theorem AgAt.focus {w : World} {L : Labs} {who g : Nat} {M : Ag} {bq bm cn : Nat} {tv dv nv rv ov : Value} (h : AgAt w L who g M bq bm cn tv dv nv rv ov) {d : Nat} {o : Out} (ho : M.os[d]? = some o) : ∃ go k, ov = .slice (some ⟨go, 0, none⟩) M.os.length k ∧ OutF w L who M.c.th go k M.os d o := by
  have hd := (List.getElem?_eq_some_iff.1 ho).1
  obtain ⟨fs, h1, h2, h3⟩ := h.ol
  obtain ⟨a, k, rfl, _⟩ := h2.shape
  obtain ⟨go, rfl, _⟩ := h2.head (by omega)
  refine ⟨go, k, rfl, hd, ?_⟩
  rw [set_self _ _ _ ho]
  exact ⟨fs, h1, h2, h3⟩
end Go.Proofs.YtojpjaifhjigfaaGreatDoor

/- Breakers and turns, as plain data. -/
namespace Go.Proofs.YtojpjaifhjigfaaGreatDoor
open Go.RowKit Go.Maps

/-- The quotient of the failures, as float64; is it too great? -/
@[irreducible] def quot (f r : Int) : Nat := (FloatKind.f64.format.div (floatOfInt .f64 f) (floatOfInt .f64 r)).getD 0
@[irreducible] def tooMany (th : Nat) (f r : Int) : Bool := (FloatKind.f64.format.order (quot f r) th == some .gt) || (FloatKind.f64.format.order (quot f r) th == some .eq)
theorem quot_all : ((List.range 65).all fun f => (List.range 64).all fun r => (FloatKind.f64.format.div (floatOfInt .f64 (f : Nat)) (floatOfInt .f64 ((r + 1 : Nat) : Int))).isSome) = true := by kernel_rfl
theorem quot_some {f r : Int} (h0 : 0 ≤ f) (h1 : f ≤ 64) (h2 : 1 ≤ r) (h3 : r ≤ 64) : floatBits .quo .f64 (floatOfInt .f64 f) (floatOfInt .f64 r) = some (quot f r) := by
  have := List.all_eq_true.1 quot_all f.toNat (by simp; omega)
  have := List.all_eq_true.1 this (r.toNat - 1) (by simp; omega)
  rw [show ((f.toNat : Nat) : Int) = f by omega, show ((r.toNat - 1 + 1 : Nat) : Int) = r by omega] at this
  obtain ⟨q, hq⟩ := Option.isSome_iff_exists.1 this
  show FloatKind.f64.format.div _ _ = _
  rw [quot, hq]; rfl

def Out.counted (o : Out) (c : Cfg) (now : Int) (good : Bool) : Out :=
  let r := o.res + 1
  let f := if good then o.fl else o.fl + 1
  if decide (c.le ≤ r) && tooMany c.th f r then { o with trip := true, unt := now + c.op, res := 0, fl := 0 } else if r = c.wi then { o with res := 0, fl := 0 } else { o with res := r, fl := f }
def Out.heard (o : Out) (c : Cfg) (now : Int) (good : Bool) : Out :=
  if o.trip then (if good then { o with trip := false } else { o with trip := true, unt := now + c.op, res := 0, fl := 0 }) else o.counted c now good

/-- The pause behind a failure. -/
def nextPause (c : Cfg) (pa draw : Int) : Int := min c.ca (c.ba + draw % (3 * pa - c.ba + 1))

/-- Turns. -/
def allowsR (sizes : List Nat) (t : Nat) (cr : List Int) : Bool := decide (0 < sizes.getD t 0) && decide ((sizes.getD t 0 : Int) ≤ cr.getD t 0)
def passR (sizes : List Nat) (quanta : List Int) (s : Nat × List Int) : Nat × List Int :=
  let cr := if sizes.getD s.1 0 = 0 then s.2.set s.1 0 else s.2
  let t := (s.1 + 1) % s.2.length
  (t, cr.set t (cr.getD t 0 + quanta.getD t 0))
def turnsR (sizes : List Nat) (quanta : List Int) : Nat → Nat × List Int → Nat × List Int
  | 0, s => s
  | n + 1, s => if allowsR sizes s.1 s.2 then s else turnsR sizes quanta n (passR sizes quanta s)
theorem turnsR_allows {sizes : List Nat} {quanta : List Int} {n : Nat} {s : Nat × List Int} (h : allowsR sizes s.1 s.2 = true) : turnsR sizes quanta n s = s := by
  cases n <;> simp [turnsR, h]

/-- What holds of turns and credits: whoever has not the turn has less than the least quantum. -/
structure Rot (n : Nat) (s : Nat × List Int) : Prop where
  turn : s.1 < n
  len : s.2.length = n
  pos : ∀ i, i < n → 0 ≤ s.2.getD i 0
  low : ∀ i, i < n → i ≠ s.1 → s.2.getD i 0 ≤ 63
  top : s.2.getD s.1 0 ≤ 1063
theorem getD_set {l : List Int} {i j : Nat} {v : Int} (h : i < l.length) : (l.set i v).getD j 0 = if i = j then v else l.getD j 0 := by
  simp only [List.getD_eq_getElem?_getD, List.getElem?_set]
  by_cases e : i = j
  · subst e; simp [h]
  · simp [e]
theorem Rot.pass {n : Nat} {s : Nat × List Int} (h : Rot n s) {sizes : List Nat} {quanta : List Int} (hs : ∀ i, sizes.getD i 0 ≤ 64) (hq : ∀ i, i < n → 64 ≤ quanta.getD i 0 ∧ quanta.getD i 0 ≤ 1000) (hno : allowsR sizes s.1 s.2 = false) : Rot n (passR sizes quanta s) ∧ 64 ≤ (passR sizes quanta s).2.getD (passR sizes quanta s).1 0 := by
  obtain ⟨t, cr⟩ := s
  have ht := h.turn
  have hl := h.len
  have hp := h.pos
  have hw := h.low
  have htp := h.top
  simp only at ht hl hp hw htp
  have ht' : (t + 1) % n < n := Nat.mod_lt _ (by omega)
  have hc1 : ∀ i, i < n → 0 ≤ (if sizes.getD t 0 = 0 then cr.set t 0 else cr).getD i 0 ∧ (if sizes.getD t 0 = 0 then cr.set t 0 else cr).getD i 0 ≤ 63 := by
    intro i hi
    by_cases h0 : sizes.getD t 0 = 0
    · rw [if_pos h0, getD_set (by omega)]
      by_cases e : t = i
      · rw [if_pos e]; omega
      · rw [if_neg e]; exact ⟨hp i hi, hw i hi (fun e' => e e'.symm)⟩
    · rw [if_neg h0]
      refine ⟨hp i hi, ?_⟩
      by_cases e : i = t
      · subst e
        have hz := hs i
        unfold allowsR at hno
        dsimp only at hno
        rw [Bool.and_eq_false_iff, decide_eq_false_iff_not, decide_eq_false_iff_not] at hno
        omega
      · exact hw i hi e
  have hl1 : (if sizes.getD t 0 = 0 then cr.set t 0 else cr).length = n := by split <;> simp [hl]
  obtain ⟨q0, q1⟩ := hq _ ht'
  obtain ⟨x0, x1⟩ := hc1 _ ht'
  unfold passR
  simp only [hl]
  generalize (if sizes.getD t 0 = 0 then cr.set t 0 else cr) = cr1 at *
  refine ⟨⟨ht', by simp [hl1], fun i hi => ?_, fun i hi hne => ?_, ?_⟩, ?_⟩
  · simp only
    rw [getD_set (by omega)]
    split
    · omega
    · exact (hc1 i hi).1
  · simp only at hne ⊢
    rw [getD_set (by omega), if_neg (fun e => hne e.symm)]
    exact (hc1 i hi).2
  · rw [getD_set (by omega), if_pos rfl]; omega
  · rw [getD_set (by omega), if_pos rfl]; omega
theorem turnsR_rot {sizes : List Nat} {quanta : List Int} {n : Nat} (hs : ∀ i, sizes.getD i 0 ≤ 64) (hq : ∀ i, i < n → 64 ≤ quanta.getD i 0 ∧ quanta.getD i 0 ≤ 1000) : ∀ (m : Nat) (s : Nat × List Int), Rot n s → Rot n (turnsR sizes quanta m s)
  | 0, s, h => h
  | m + 1, s, h => by
    unfold turnsR
    cases e : allowsR sizes s.1 s.2 with
    | true => simpa using h
    | false => simpa using turnsR_rot hs hq m _ (h.pass hs hq e).1
/-- Whoever may go goes at its next turn. -/
theorem turnsR_ends {sizes : List Nat} {quanta : List Int} {n : Nat} (hs : ∀ i, sizes.getD i 0 ≤ 64) (hq : ∀ i, i < n → 64 ≤ quanta.getD i 0 ∧ quanta.getD i 0 ≤ 1000) : ∀ (m : Nat) (s : Nat × List Int), Rot n s → (∃ j, 1 ≤ j ∧ j ≤ m ∧ 0 < sizes.getD ((s.1 + j) % n) 0) → allowsR sizes (turnsR sizes quanta m s).1 (turnsR sizes quanta m s).2 = true
  | 0, s, h, ⟨j, h1, h2, _⟩ => by omega
  | m + 1, s, h, ⟨j, h1, h2, h3⟩ => by
    unfold turnsR
    cases e : allowsR sizes s.1 s.2 with
    | true => simpa using e
    | false =>
      simp only [Bool.false_eq_true, if_false]
      obtain ⟨hr, hg⟩ := h.pass hs hq e
      have ht : (passR sizes quanta s).1 = (s.1 + 1) % n := by simp [passR, h.len]
      by_cases e1 : j = 1
      · subst e1
        have ha : allowsR sizes (passR sizes quanta s).1 (passR sizes quanta s).2 = true := by
          have hz := hs ((s.1 + 1) % n)
          unfold allowsR
          rw [ht] at hg ⊢
          simp only [Bool.and_eq_true, decide_eq_true_eq]
          exact ⟨h3, by omega⟩
        rw [turnsR_allows ha]
        exact ha
      · refine turnsR_ends hs hq m _ hr ⟨j - 1, by omega, by omega, ?_⟩
        rw [ht]
        have : ((s.1 + 1) % n + (j - 1)) % n = (s.1 + j) % n := by
          rw [Nat.mod_add_mod]
          congr 1
          omega
        rw [this]
        exact h3
theorem turnsR_found {sizes : List Nat} {quanta : List Int} {n : Nat} (hs : ∀ i, sizes.getD i 0 ≤ 64) (hq : ∀ i, i < n → 64 ≤ quanta.getD i 0 ∧ quanta.getD i 0 ≤ 1000) {s : Nat × List Int} (h : Rot n s) {i : Nat} (hi : i < n) (hz : 0 < sizes.getD i 0) : allowsR sizes (turnsR sizes quanta n s).1 (turnsR sizes quanta n s).2 = true := by
  have ht := h.turn
  refine turnsR_ends hs hq n s h ?_
  by_cases e : s.1 < i
  · exact ⟨i - s.1, by omega, by omega, by rw [show s.1 + (i - s.1) = i by omega, Nat.mod_eq_of_lt hi]; exact hz⟩
  · exact ⟨n + i - s.1, by omega, by omega, by rw [show s.1 + (n + i - s.1) = n + i by omega, Nat.add_mod_left, Nat.mod_eq_of_lt hi]; exact hz⟩

end Go.Proofs.YtojpjaifhjigfaaGreatDoor

/-
  DERIVED: THE SHELF's CONTRACTS AT THIS DUMP, IN PLAIN WORDS (tools/lay-plain.mjs out of 'YtojpjaifhjigfaaGreatDoorLaysRaw.lean', which tools/lay-shelf.mjs wrote): THE SAME DECLARATIONS UNDER THE SAME NAMES: 'import', 'namespace', 'open', 'def', 'theorem' AND NOTHING ELSE: no command of the shelf's: FOR A HAND-IN. Each laying: the table of numbers ('.._ren') and one theorem, a field a fact of the dump's own or the kernel's comparison; each contract: ONE APPLICATION.
-/
namespace Go.Proofs
open Go.Shelf
def Tryz.layClone_ren : Go.Shelf.Ren := ⟨fun | 316 => 134 | n => n, fun | 9 => 9 | 3 => 3 | 4 => 4 | 37 => 156 | 0 => 0 | 127 => 226 | 5 => 5 | n => n, fun | n => n⟩
theorem Tryz.layClone : Go.Proofs.LaysM.n316 Tryz.prog Tryz.layClone_ren := {
  mixed := by kernel_rfl
  f316 := Tryz.func134.trans (congrArg some (by kernel_rfl))
  t0 := Tryz.underlying0
  a0 := Tryz.isAgg0
  z0 := Tryz.sizeOf0
  v0 := Tryz.zeroValue0
  t3 := Tryz.underlying3
  a3 := Tryz.isAgg3
  z3 := Tryz.sizeOf3
  v3 := Tryz.zeroValue3
  t4 := Tryz.underlying4
  a4 := Tryz.isAgg4
  z4 := Tryz.sizeOf4
  v4 := Tryz.zeroValue4
  t9 := Tryz.underlying9
  a9 := Tryz.isAgg9
  z9 := Tryz.sizeOf9
  v9 := Tryz.zeroValue9
  t37 := Tryz.underlying156
  a37 := Tryz.isAgg156
  z37 := Tryz.sizeOf156
  v37 := Tryz.zeroValue156
  t127 := Tryz.underlying226
  a127 := Tryz.isAgg226
  z127 := Tryz.sizeOf226
  v127 := Tryz.zeroValue226
  t5 := Tryz.underlying5
  a5 := Tryz.isAgg5
  z5 := Tryz.sizeOf5
  v5 := Tryz.zeroValue5
  i0 := by kernel_rfl
  i3 := by kernel_rfl
  i4 := by kernel_rfl
  i5 := by kernel_rfl
  i9 := by kernel_rfl
  i37 := by kernel_rfl
  i127 := by kernel_rfl }
def Tryz.layMul_ren : Go.Shelf.Ren := ⟨fun | 212 => 135 | 263 => 154 | 264 => 155 | n => n, fun | 46 => 207 | 51 => 227 | 146 => 228 | 53 => 230 | 148 => 231 | n => n, fun | n => n⟩
theorem Tryz.layMul : Go.Proofs.Lays.n212 Tryz.prog Tryz.layMul_ren := {
  mixed := by kernel_rfl
  f212 := Tryz.func135.trans (congrArg some (by kernel_rfl))
  f263 := Tryz.func154.trans (congrArg some (by kernel_rfl))
  f264 := Tryz.func155.trans (congrArg some (by kernel_rfl))
  t46 := Tryz.underlying207
  a46 := Tryz.isAgg207
  z46 := Tryz.sizeOf207
  v46 := Tryz.zeroValue207
  t51 := Tryz.underlying227
  a51 := Tryz.isAgg227
  z51 := Tryz.sizeOf227
  v51 := Tryz.zeroValue227
  t53 := Tryz.underlying230
  a53 := Tryz.isAgg230
  z53 := Tryz.sizeOf230
  v53 := Tryz.zeroValue230
  t146 := Tryz.underlying228
  a146 := Tryz.isAgg228
  z146 := Tryz.sizeOf228
  v146 := Tryz.zeroValue228
  t148 := Tryz.underlying231
  a148 := Tryz.isAgg231
  z148 := Tryz.sizeOf231
  v148 := Tryz.zeroValue231 }
def Tryz.layKeys_ren : Go.Shelf.Ren := ⟨fun | 7 => 101 | 10 => 127 | n => n, fun | 23 => 22 | 26 => 9 | 3 => 3 | 28 => 178 | 0 => 0 | 27 => 177 | 33 => 110 | 4 => 4 | n => n, fun | n => n⟩
theorem Tryz.layKeys : Go.Proofs.SlLaysZ.n7 Tryz.prog Tryz.layKeys_ren := {
  mixed := by kernel_rfl
  f7 := ⟨Tryz.f101.name, by decide, Tryz.func101.trans (congrArg some (by kernel_rfl))⟩
  f10 := ⟨Tryz.f127.name, by decide, Tryz.func127.trans (congrArg some (by kernel_rfl))⟩
  t0 := Tryz.underlying0
  a0 := Tryz.isAgg0
  z0 := Tryz.sizeOf0
  v0 := Tryz.zeroValue0
  t4 := Tryz.underlying4
  a4 := Tryz.isAgg4
  z4 := Tryz.sizeOf4
  v4 := Tryz.zeroValue4
  t23 := Tryz.underlying22
  a23 := Tryz.isAgg22
  z23 := Tryz.sizeOf22
  v23 := Tryz.zeroValue22
  t26 := Tryz.underlying9
  a26 := Tryz.isAgg9
  z26 := Tryz.sizeOf9
  v26 := Tryz.zeroValue9
  t27 := Tryz.underlying177
  a27 := Tryz.isAgg177
  z27 := Tryz.sizeOf177
  v27 := Tryz.zeroValue177
  t28 := Tryz.underlying178
  a28 := Tryz.isAgg178
  z28 := Tryz.sizeOf178
  v28 := Tryz.zeroValue178
  t33 := Tryz.underlying110
  a33 := Tryz.isAgg110
  z33 := Tryz.sizeOf110
  v33 := Tryz.zeroValue110 }
def Tryz.laySorted_ren : Go.Shelf.Ren := ⟨fun | 6 => 100 | 8 => 125 | 9 => 126 | 11 => 149 | 13 => 151 | 12 => 150 | 23 => 171 | 24 => 172 | 14 => 162 | 15 => 163 | 16 => 164 | 17 => 165 | 18 => 166 | 19 => 167 | 20 => 168 | 21 => 169 | 22 => 170 | 25 => 175 | 26 => 176 | 27 => 177 | 28 => 178 | 29 => 179 | 30 => 180 | 31 => 182 | n => n, fun | 26 => 9 | 28 => 178 | 24 => 85 | 0 => 0 | 3 => 3 | 37 => 207 | 48 => 227 | 50 => 230 | 4 => 4 | 40 => 240 | 39 => 239 | 45 => 120 | 5 => 5 | 9 => 9 | 51 => 250 | 55 => 254 | 57 => 257 | 58 => 258 | 33 => 110 | n => n, fun | n => n⟩
theorem Tryz.laySorted : Go.Proofs.SlLaysZ.n6 Tryz.prog Tryz.laySorted_ren := {
  mixed := by kernel_rfl
  f6 := ⟨Tryz.f100.name, by decide, Tryz.func100.trans (congrArg some (by kernel_rfl))⟩
  f8 := ⟨Tryz.f125.name, by decide, Tryz.func125.trans (congrArg some (by kernel_rfl))⟩
  f11 := ⟨Tryz.f149.name, by decide, Tryz.func149.trans (congrArg some (by kernel_rfl))⟩
  t0 := Tryz.underlying0
  a0 := Tryz.isAgg0
  z0 := Tryz.sizeOf0
  v0 := Tryz.zeroValue0
  t24 := Tryz.underlying85
  a24 := Tryz.isAgg85
  z24 := Tryz.sizeOf85
  v24 := Tryz.zeroValue85
  t26 := Tryz.underlying9
  a26 := Tryz.isAgg9
  z26 := Tryz.sizeOf9
  v26 := Tryz.zeroValue9
  t28 := Tryz.underlying178
  a28 := Tryz.isAgg178
  z28 := Tryz.sizeOf178
  v28 := Tryz.zeroValue178
  i26 := by kernel_rfl }
def Tryz.laySort_ren : Go.Shelf.Ren := ⟨fun | 6 => 126 | 8 => 151 | 9 => 150 | 19 => 171 | 20 => 172 | 21 => 162 | 22 => 163 | 23 => 164 | 24 => 165 | 25 => 166 | 26 => 167 | 27 => 168 | 28 => 169 | 29 => 170 | 36 => 175 | 31 => 176 | 32 => 177 | 37 => 178 | 38 => 179 | 39 => 180 | 41 => 182 | n => n, fun | 27 => 85 | 29 => 9 | 3 => 3 | 32 => 207 | 26 => 85 | 0 => 0 | 44 => 227 | 46 => 230 | 4 => 4 | 36 => 240 | 35 => 239 | 41 => 120 | 5 => 5 | 9 => 9 | 53 => 250 | 57 => 254 | 63 => 257 | 64 => 258 | n => n, fun | n => n⟩
theorem Tryz.laySort : Go.Proofs.SlLaysM.n6 Tryz.prog Tryz.laySort_ren := {
  mixed := by kernel_rfl
  f6 := ⟨Tryz.f126.name, by decide, Tryz.func126.trans (congrArg some (by kernel_rfl))⟩
  f8 := Tryz.func151.trans (congrArg some (by kernel_rfl))
  f9 := ⟨Tryz.f150.name, by decide, Tryz.func150.trans (congrArg some (by kernel_rfl))⟩
  f19 := Tryz.func171.trans (congrArg some (by kernel_rfl))
  f20 := Tryz.func172.trans (congrArg some (by kernel_rfl))
  f21 := ⟨Tryz.f162.name, by decide, Tryz.func162.trans (congrArg some (by kernel_rfl))⟩
  f22 := ⟨Tryz.f163.name, by decide, Tryz.func163.trans (congrArg some (by kernel_rfl))⟩
  f23 := ⟨Tryz.f164.name, by decide, Tryz.func164.trans (congrArg some (by kernel_rfl))⟩
  f24 := ⟨Tryz.f165.name, by decide, Tryz.func165.trans (congrArg some (by kernel_rfl))⟩
  f25 := ⟨Tryz.f166.name, by decide, Tryz.func166.trans (congrArg some (by kernel_rfl))⟩
  f26 := ⟨Tryz.f167.name, by decide, Tryz.func167.trans (congrArg some (by kernel_rfl))⟩
  f27 := ⟨Tryz.f168.name, by decide, Tryz.func168.trans (congrArg some (by kernel_rfl))⟩
  f28 := ⟨Tryz.f169.name, by decide, Tryz.func169.trans (congrArg some (by kernel_rfl))⟩
  f29 := ⟨Tryz.f170.name, by decide, Tryz.func170.trans (congrArg some (by kernel_rfl))⟩
  f31 := Tryz.func176.trans (congrArg some (by kernel_rfl))
  f32 := Tryz.func177.trans (congrArg some (by kernel_rfl))
  f36 := ⟨Tryz.f175.name, by decide, Tryz.func175.trans (congrArg some (by kernel_rfl))⟩
  f37 := ⟨Tryz.f178.name, by decide, Tryz.func178.trans (congrArg some (by kernel_rfl))⟩
  f38 := ⟨Tryz.f179.name, by decide, Tryz.func179.trans (congrArg some (by kernel_rfl))⟩
  f39 := ⟨Tryz.f180.name, by decide, Tryz.func180.trans (congrArg some (by kernel_rfl))⟩
  f41 := ⟨Tryz.f182.name, by decide, Tryz.func182.trans (congrArg some (by kernel_rfl))⟩
  t0 := Tryz.underlying0
  a0 := Tryz.isAgg0
  z0 := Tryz.sizeOf0
  v0 := Tryz.zeroValue0
  t3 := Tryz.underlying3
  a3 := Tryz.isAgg3
  z3 := Tryz.sizeOf3
  v3 := Tryz.zeroValue3
  t4 := Tryz.underlying4
  a4 := Tryz.isAgg4
  z4 := Tryz.sizeOf4
  v4 := Tryz.zeroValue4
  t5 := Tryz.underlying5
  a5 := Tryz.isAgg5
  z5 := Tryz.sizeOf5
  v5 := Tryz.zeroValue5
  t9 := Tryz.underlying9
  a9 := Tryz.isAgg9
  z9 := Tryz.sizeOf9
  v9 := Tryz.zeroValue9
  t26 := Tryz.underlying85
  a26 := Tryz.isAgg85
  z26 := Tryz.sizeOf85
  v26 := Tryz.zeroValue85
  t27 := Tryz.underlying85
  a27 := Tryz.isAgg85
  z27 := Tryz.sizeOf85
  v27 := Tryz.zeroValue85
  t29 := Tryz.underlying9
  a29 := Tryz.isAgg9
  z29 := Tryz.sizeOf9
  v29 := Tryz.zeroValue9
  t32 := Tryz.underlying207
  a32 := Tryz.isAgg207
  z32 := Tryz.sizeOf207
  v32 := Tryz.zeroValue207
  t35 := Tryz.underlying239
  a35 := Tryz.isAgg239
  z35 := Tryz.sizeOf239
  v35 := Tryz.zeroValue239
  t36 := Tryz.underlying240
  a36 := Tryz.isAgg240
  z36 := Tryz.sizeOf240
  v36 := Tryz.zeroValue240
  t41 := Tryz.underlying120
  a41 := Tryz.isAgg120
  z41 := Tryz.sizeOf120
  v41 := Tryz.zeroValue120
  t44 := Tryz.underlying227
  a44 := Tryz.isAgg227
  z44 := Tryz.sizeOf227
  v44 := Tryz.zeroValue227
  t46 := Tryz.underlying230
  a46 := Tryz.isAgg230
  z46 := Tryz.sizeOf230
  v46 := Tryz.zeroValue230
  t53 := Tryz.underlying250
  a53 := Tryz.isAgg250
  z53 := Tryz.sizeOf250
  v53 := Tryz.zeroValue250
  t57 := Tryz.underlying254
  a57 := Tryz.isAgg254
  z57 := Tryz.sizeOf254
  v57 := Tryz.zeroValue254
  t63 := Tryz.underlying257
  a63 := Tryz.isAgg257
  z63 := Tryz.sizeOf257
  v63 := Tryz.zeroValue257
  t64 := Tryz.underlying258
  a64 := Tryz.isAgg258
  z64 := Tryz.sizeOf258
  v64 := Tryz.zeroValue258 }
def Tryz.layDelete_ren : Go.Shelf.Ren := ⟨fun | 10 => 173 | 6 => 181 | n => n, fun | 22 => 51 | 23 => 3 | 25 => 40 | 3 => 3 | 4 => 4 | 0 => 0 | n => n, fun | n => n⟩
theorem Tryz.layDelete : Go.Proofs.SlLaysH.n10 Tryz.prog Tryz.layDelete_ren := {
  mixed := by kernel_rfl
  f6 := ⟨Tryz.f181.name, by decide, Tryz.func181.trans (congrArg some (by kernel_rfl))⟩
  f10 := ⟨Tryz.f173.name, by decide, Tryz.func173.trans (congrArg some (by kernel_rfl))⟩
  t0 := Tryz.underlying0
  a0 := Tryz.isAgg0
  z0 := Tryz.sizeOf0
  v0 := Tryz.zeroValue0
  t3 := Tryz.underlying3
  a3 := Tryz.isAgg3
  z3 := Tryz.sizeOf3
  v3 := Tryz.zeroValue3
  t4 := Tryz.underlying4
  a4 := Tryz.isAgg4
  z4 := Tryz.sizeOf4
  v4 := Tryz.zeroValue4
  t22 := Tryz.underlying51
  a22 := Tryz.isAgg51
  z22 := Tryz.sizeOf51
  v22 := Tryz.zeroValue51
  a23 := Tryz.isAgg3
  z23 := Tryz.sizeOf3
  t25 := Tryz.underlying40
  a25 := Tryz.isAgg40
  z25 := Tryz.sizeOf40
  v25 := Tryz.zeroValue40 }
def Tryz.layIndex_ren : Go.Shelf.Ren := ⟨fun | 6 => 181 | n => n, fun | 22 => 51 | 23 => 3 | 25 => 40 | 3 => 3 | 0 => 0 | 4 => 4 | n => n, fun | n => n⟩
theorem Tryz.layIndex : Go.Proofs.SlLaysH.n6 Tryz.prog Tryz.layIndex_ren := {
  mixed := by kernel_rfl
  f6 := ⟨Tryz.f181.name, by decide, Tryz.func181.trans (congrArg some (by kernel_rfl))⟩
  t0 := Tryz.underlying0
  a0 := Tryz.isAgg0
  z0 := Tryz.sizeOf0
  v0 := Tryz.zeroValue0
  t3 := Tryz.underlying3
  a3 := Tryz.isAgg3
  z3 := Tryz.sizeOf3
  v3 := Tryz.zeroValue3
  t4 := Tryz.underlying4
  a4 := Tryz.isAgg4
  z4 := Tryz.sizeOf4
  v4 := Tryz.zeroValue4
  t22 := Tryz.underlying51
  a22 := Tryz.isAgg51
  z22 := Tryz.sizeOf51
  v22 := Tryz.zeroValue51
  a23 := Tryz.isAgg3
  z23 := Tryz.sizeOf3
  t25 := Tryz.underlying40
  a25 := Tryz.isAgg40
  z25 := Tryz.sizeOf40
  v25 := Tryz.zeroValue40 }
end Go.Proofs

/- What the library's functions do that the program calls: strings.Clone, maps.Keys, slices.Sorted, bits.Mul, slices.Repeat of nothing. -/
namespace Go.Proofs.YtojpjaifhjigfaaGreatDoor
open Go.RowKit Go.Maps Go.Sort Go.Shelf

theorem liteClone_any (s : ByteArray) (w : World) (h : s.size ≤ 281474976710656) : Calls Tryz.prog 134 #[.string s] w fun e w' => e = .returned (.string s) ∧ Below w.heap.size w w' := Any.stringslite_Clone Tryz.layClone s w h
set_option maxHeartbeats 400000 in
theorem strClone_any (s : ByteArray) (w : World) (h : s.size ≤ 281474976710656) : Calls Tryz.prog 106 #[.string s] w fun e w' => e = .returned (.string s) ∧ Below w.heap.size w w' := by
  have H := hide (liteClone_any s w h)
  clear h
  go_enter Tryz.func106, Tryz.ntmps106
  go_wp2_with fail
  refine H.out.mono ?_
  rintro e w' ⟨rfl, hb⟩
  have Hb := hide hb
  clear hb
  go_wp2_with fail
  go_ret
  exact ⟨rfl, Hb.out⟩

theorem bitsMul_any (x y : Nat) (hx : x < 18446744073709551616) (hy : y < 18446744073709551616) (w : World) :
    Calls Tryz.prog 135 #[.int .u64 x, .int .u64 y] w fun e w' => e = .returned (.tuple #[.int .u64 ((x * y / 18446744073709551616 : Nat) : Int), .int .u64 ((x * y % 18446744073709551616 : Nat) : Int)]) ∧ w' = w := Any.bits_Mul Tryz.layMul x y hx hy w

theorem sortsIn (m : Nat) : AnyZ.SortsIn Tryz.prog Tryz.laySorted_ren Fence.wide m :=
  ⟨fun blk off cap ss W hH hblk hsz => callsIn_wide.2 (AnyM.slices_Sort_string Tryz.laySort blk off cap ss W hH hblk hsz), fun p cap W => callsIn_wide.2 (AnyM.slices_Sort_string_none Tryz.laySort p cap W)⟩
theorem keys_any (mb : Option Nat) (W : World) : Calls Tryz.prog 101 #[.map mb] W fun e w' => e = .returned (.func (.func 127) #[] #[.pointer (some ⟨W.heap.size, 0, none⟩)]) ∧ w' = W.alloc (.cells #[.map mb] 22) :=
  callsIn_wide.1 (AnyZ.keys_in Tryz.layKeys Fence.wide 5 trivial rfl mb W)

set_option maxHeartbeats 1000000 in
/-- The keys of a map, sorted, in a new row. -/
theorem sorted_any (b nn : Nat) (D : DataW Unit) (w : World) (hown : OM w b nn D) (hmax : Maps.size D ≤ 120) :
    Calls Tryz.prog 100 #[.func (.func 127) #[] #[.pointer (some ⟨w.heap.size, 0, none⟩)]] (w.alloc (.cells #[.map (some b)] 22)) fun e w' => ∃ (v : Value) (ss : List (List UInt8)), e = .returned v ∧ ss.Perm (strKeys D) ∧
      w'.ownsRow (w.heap.size + 1) 9 1 v ss.length ((ss.mergeSort (fun x y => decide (x ≤ y))).map encStr) ∧ Below (w.heap.size + 1) (w.alloc (.cells #[.map (some b)] 22)) w' := by
  have hbl := hown.lt
  have hseq : SeqGives Fence.wide 2 Tryz.prog 127 #[.pointer (some ⟨w.heap.size, 0, none⟩)] encStr (fun ss => ss.Perm (strKeys D)) (Maps.size D) (w.alloc (.cells #[.map (some b)] 22)) :=
    AnyZ.keys_gives (ρ := Tryz.layKeys_ren) { Tryz.layKeys with } Fence.wide _ trivial rfl (by omega) w.heap.size b nn D _ (by simp) (by simp) (by
      obtain ⟨es, clock, hb, Ft, hs, hD⟩ := hown
      exact ⟨es, clock, (Below.heap_alloc _ _ b hbl).trans hb, Ft, hs, hD⟩)
  have := AnyZ.sorted_in Tryz.laySorted Fence.wide 5 trivial trivial trivial trivial rfl (by omega) (sortsIn _) (enters_of Tryz.func126 (by kernel_rfl) rfl) 127 #[.pointer (some ⟨w.heap.size, 0, none⟩)] trivial (enters_of Tryz.func127 (by kernel_rfl) rfl) _ _ (by unfold maxLen; omega) (by omega) _ hseq
  refine (callsIn_wide.1 this).mono ?_
  rintro e w' ⟨v, ss, rfl, h1, h2, _, h3⟩
  simp only [World.size_alloc] at h2 h3
  exact ⟨v, ss, rfl, h1, h2, h3⟩
end Go.Proofs.YtojpjaifhjigfaaGreatDoor
