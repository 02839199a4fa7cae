/- Steps of the proof (several texts in one): Model, Lane, SentsAny, ErrWalk, NewParts, Flat, Dead, Counts. -/
import Derived.Test.YtojpjaifhjigfaaGreatDoorMAllupto01
import Derived.Test.YtojpjaifhjigfaaGreatDoorMAllupto02
import Derived.DeepKeys4
import Derived.MapViews
import Derived.LaidLaws
import Derived.LaidEql
import Derived.MakeChecks
import Derived.Test.YtojpjaifhjigfaaGreatDoorProg
import Derived.WalkKit
import Derived.WalkSpells
import Derived.WalkLawsBesides
import Derived.Deep.QuietTactic
import Derived.BigQuiet
import Derived.Stop.LaidErr
import Derived.Outline
import Derived.Shelf.SlMaps.Clone
import Derived.Laws.EntriesVeiled
import Derived.Deep.RegionHeld3

/- The program's agent: what it holds, as plain data; and how that lies in memory. -/
namespace Go.Proofs.YtojpjaifhjigfaaGreatDoor
open Go.RowKit Go.Maps

/-- A batch that was taken, and what has become of it. -/
structure Bat where
  dst : Int
  ten : List UInt8
  id : List UInt8
  body : List UInt8
  st : Int
  fl : Int
def Bat.cells (b : Bat) : List Value := [.int .i64 b.dst, encStr b.ten, encStr b.id, encStr b.body, .int .i64 b.st, .int .i64 b.fl]
theorem Bat.cells_length (b : Bat) : b.cells.length = 6 := rfl
/-- When a batch may go again. -/
structure Ret where
  fr : Int
  pa : Int
def Ret.cells (r : Ret) : List Value := [.int .i64 r.fr, .int .i64 r.pa]
/-- A destination. -/
structure Out where
  res : Int
  fl : Int
  trip : Bool
  unt : Int
  turn : Nat
  cr : List Int
  sends : Int
  way : Int
  began : Int
def Out.cells (o : Out) (fv cv : Value) : List Value := [fv, .int .i64 o.res, .int .i64 o.fl, .bool o.trip, .int .i64 o.unt, .int .i64 o.turn, cv, .int .i64 o.sends, .int .i64 o.way, .int .i64 o.began]
/-- An agent. -/
structure Ag where
  c : Cfg
  D : DataW Unit
  ns : List (List UInt8)
  bs : List Bat
  dead : List Nat
  log : List UInt8
  now : Int
  rt : List Ret
  os : List Out

/-- The places of a lane's pending batches. -/
def pend (bs : List Bat) (d : Int) (t : List UInt8) : List Nat := (bs.zipIdx.filter fun p => decide (p.1.dst = d) && decide (p.1.ten = t) && decide (p.1.st = 1)).map (·.2)
def ints (l : List Nat) : List Value := l.map fun n : Nat => .int .i64 (n : Int)
def intsI (l : List Int) : List Value := l.map fun n => .int .i64 n

/-- How a lane reads as a key. -/
def laneKey (d : Int) (t : List UInt8) : Lit := .string (keyBytes [.int .i64 d, .string t])
def laneVal (d : Int) (t : List UInt8) : Value := .agg #[.int .i64 d, encStr t]
/-- An element of the map of queues reads as the slice that it is. -/
def Rq (v : Value) : Option (DataW Value × List MemPlace) := match v with | .slice _ _ _ => some (.held v, []) | _ => none
/-- The slice at a lane (nil, where there is none). -/
def hdr (D : DataW Value) (d : Int) (t : List UInt8) : Value := match D.atKey (laneKey d t) (.held (.slice none 0 0)) with | .held v => v | _ => .slice none 0 0

/-- A lane that can be a key. -/
def LaneOk (d : Int) (t : List UInt8) : Prop := (Lit.int .i64 d).wf = true ∧ t.length ≤ maxLen
/-- The queues: a map from lanes to rows of places, each row with a label of its own. -/
def QueuesAt (w : World) (L : Labs) (who b : Nat) (bs : List Bat) : Prop :=
  ∃ D : DataW Value, OMapAt w L (some (who, .qm)) Tryz.prog 202 Rq b (Maps.size D) D ∧ Maps.size D ≤ bs.length ∧ (∀ d t, LaneOk d t → Maps.has D (laneKey d t) = true → 0 ≤ d ∧ d < 4) ∧
    (∀ d t, LaneOk d t → pend bs d t ≠ [] → Maps.has D (laneKey d t) = true) ∧ ∀ d t, LaneOk d t → RowAt w L (some (who, .qr d t)) 3 1 (hdr D d t) (pend bs d t).length (ints (pend bs d t))

/-- A destination in memory: what its breaker asks, and its credits. -/
def OutAt (w : World) (L : Labs) (who i : Nat) (th : Nat) (o : Out) (fv cv : Value) : Prop :=
  ∃ g, fv = .func (.func 152) #[] #[.pointer (some ⟨g, 0, none⟩)] ∧ BlkAt w L (some (who, .th 0)) g #[.float .f64 th] 23 ∧ RowAt w L (some (who, .cr i)) 3 1 cv o.cr.length (intsI o.cr)
/-- All destinations: the row's cells are those of each, in order. -/
def OutsAt (w : World) (L : Labs) (who th : Nat) (v : Value) (os : List Out) : Prop :=
  ∃ fs : List (Value × Value), fs.length = os.length ∧ RowAt w L (some (who, .ol)) 149 10 v os.length ((os.zip fs).flatMap fun p => p.1.cells p.2.1 p.2.2) ∧
    ∀ i o f, os[i]? = some o → fs[i]? = some f → OutAt w L who i th o f.1 f.2

def agCells (bq bm : Nat) (tv dv nv rv ov : Value) (M : Ag) : Array Value :=
  #[tv, .map (some bq), dv, encStr M.log, .int .i64 M.c.d, .map (some bm), .int .i64 M.c.q, .int .i64 M.c.at', .int .i64 M.c.ba, .int .i64 M.c.ca, .int .i64 M.c.ti, .int .i64 M.c.wi, .int .i64 M.c.le, .float .f64 M.c.th, .int .i64 M.c.op, nv, .int .i64 M.now, rv, ov]

/-- Where an agent's parts lie. -/
structure AgAt (w : World) (L : Labs) (who g : Nat) (M : Ag) (bq bm cn : Nat) (tv dv nv rv ov : Value) : Prop where
  blk : BlkAt w L (some (who, .ag)) g (agCells bq bm tv dv nv rv ov M) 138
  tk : RowAt w L (some (who, .tk)) 155 6 tv M.bs.length (M.bs.flatMap Bat.cells)
  qs : QueuesAt w L who bq M.bs
  dd : RowAt w L (some (who, .dd)) 3 1 dv M.dead.length (ints M.dead)
  nm : RowAt w L (some (who, .nm)) 9 1 nv M.ns.length (M.ns.map encStr)
  rt : RowAt w L (some (who, .rt)) 189 2 rv M.rt.length (M.rt.flatMap Ret.cells)
  ol : OutsAt w L who M.c.th ov M.os
  cm : OMapAt w L (some (who, .cm)) Tryz.prog 9 (plainElem Tryz.prog 3) bm cn M.D
/-- An agent in memory. -/
def AgentAt (w : World) (L : Labs) (who g : Nat) (M : Ag) : Prop := ∃ bq bm cn tv dv nv rv ov, AgAt w L who g M bq bm cn tv dv nv rv ov

/-- What belongs to one owner. -/
def ofP (who : Nat) : Lab → Prop := fun l => ∃ q, l = some (who, q)
theorem not_ofP {who who' : Nat} (h : who ≠ who') (q : Part) : ¬ ofP who (some (who', q)) := fun ⟨q', e⟩ => by simp at e; omega

theorem QueuesAt.keep {w w' : World} {L L' : Labs} {who b : Nat} {bs : List Bat} (h : QueuesAt w L who b bs) {p : Lab → Prop} (s : Step p L w L' w') (h1 : ¬ p (some (who, .qm))) (h2 : ∀ d t, ¬ p (some (who, .qr d t))) : QueuesAt w' L' who b bs := by
  obtain ⟨D, q1, q2, q3, q4, q5⟩ := h
  exact ⟨D, q1.keep s h1, q2, q3, q4, fun d t h => (q5 d t h).keep s (h2 d t)⟩
theorem OutsAt.keep {w w' : World} {L L' : Labs} {who th : Nat} {v : Value} {os : List Out} (h : OutsAt w L who th v os) {p : Lab → Prop} (s : Step p L w L' w') (h1 : ¬ p (some (who, .ol))) (h2 : ∀ i, ¬ p (some (who, .th i))) (h3 : ∀ i, ¬ p (some (who, .cr i))) : OutsAt w' L' who th v os := by
  obtain ⟨fs, q1, q2, q3⟩ := h
  refine ⟨fs, q1, q2.keep s h1, fun i o f ho hf => ?_⟩
  obtain ⟨g, r1, r2, r3⟩ := q3 i o f ho hf
  exact ⟨g, r1, r2.keep s (h2 0), r3.keep s (h3 i)⟩
theorem AgAt.keep {w w' : World} {L L' : Labs} {who g : Nat} {M : Ag} {bq bm cn : Nat} {tv dv nv rv ov : Value} (h : AgAt w L who g M bq bm cn tv dv nv rv ov) {p : Lab → Prop} (s : Step p L w L' w') (hp : ∀ q, ¬ p (some (who, q))) : AgAt w' L' who g M bq bm cn tv dv nv rv ov :=
  ⟨h.blk.keep s (hp _), h.tk.keep s (hp _), h.qs.keep s (hp _) (fun _ _ => hp _), h.dd.keep s (hp _), h.nm.keep s (hp _), h.rt.keep s (hp _), h.ol.keep s (hp _) (fun _ => hp _) (fun _ => hp _), h.cm.keep s (hp _)⟩
theorem AgentAt.keep {w w' : World} {L L' : Labs} {who g : Nat} {M : Ag} (h : AgentAt w L who g M) {p : Lab → Prop} (s : Step p L w L' w') (hp : ∀ q, ¬ p (some (who, q))) : AgentAt w' L' who g M := by
  obtain ⟨bq, bm, nm, tv, dv, nv, rv, ov, h⟩ := h
  exact ⟨bq, bm, nm, tv, dv, nv, rv, ov, h.keep s hp⟩
theorem pend_nil (d : Int) (t : List UInt8) : pend [] d t = [] := rfl

/-- An agent that has taken nothing. -/
def Ag.new (c : Cfg) (D : DataW Unit) (ns : List (List UInt8)) : Ag :=
  { c := c, D := D, ns := ns, bs := [], dead := [], log := [], now := 0, rt := [], os := List.replicate c.d.toNat { res := 0, fl := 0, trip := false, unt := 0, turn := 0, cr := List.replicate ns.length 0, sends := 0, way := -1, began := 0 } }

end Go.Proofs.YtojpjaifhjigfaaGreatDoor

/- The keys of the map of queues: a destination and a tenant. -/
namespace Go.Proofs.YtojpjaifhjigfaaGreatDoor
open Go.RowKit Go.Maps

/-- A struct of a number and a text as a key, of whatever program. -/
structure PairKey (P : Program) (k : TypeId) (f1 f2 : Field) : Prop where
  hu : P.underlying k = some (.struct #[f1, f2])
  hk : P.keyType k = true
  hc : P.cellsOf k = 2
  o1 : f1.offset = 0
  o2 : f2.offset = 1
  n1 : (f1.name != "_") = true
  n2 : (f2.name != "_") = true
  u1 : P.underlying f1.type = some (.int .i64)
  u2 : P.underlying f2.type = some .string
  c1 : P.cellsOf f1.type = 1
  c2 : P.cellsOf f2.type = 1
  sz : 0 < P.types.size

theorem PairKey.made {P : Program} {k : TypeId} {f1 f2 : Field} (h : PairKey P k f1 f2) (d : Int) (t : List UInt8) (hd : (Lit.int .i64 d).wf = true) (ht : t.length ≤ maxLen) : keyOf P k (laneVal d t) = some (laneKey d t) := by
  have hs : (ByteArray.mk t.toArray).size ≤ maxLen := by simpa [ByteArray.size] using ht
  obtain ⟨n, hn⟩ : ∃ n, P.types.size = n + 1 := ⟨P.types.size - 1, by have := h.sz; omega⟩
  have h1 : P.keyLits (n + 1) f1.type [.int .i64 d] = some [.int .i64 d] := by simp [Program.keyLits, h.u1, hd]
  have h2 : P.keyLits (n + 1) f2.type [.string ⟨t.toArray⟩] = some [.string t] := by simp [Program.keyLits, h.u2, hs]
  have h3 : P.keyLits (n + 1 + 1) k [.int .i64 d, .string ⟨t.toArray⟩] = some [.int .i64 d, .string t] := by
    unfold Program.keyLits
    simp only [h.hu]
    simp [h.hc, h.n1, h.n2, h.o1, h.o2, h.c1, h.c2, h1, h2]
  unfold keyOf
  simp only [h.hu, h.hk, hn, laneVal, laneKey, encStr]
  simp [Value.formed, h.hu, h.hc, Value.cells, h3]

theorem PairKey.inv {P : Program} {k : TypeId} {f1 f2 : Field} (h : PairKey P k f1 f2) {v : Value} {kl : Lit} (hv : keyOf P k v = some kl) : ∃ d t, v = laneVal d t ∧ kl = laneKey d t ∧ (Lit.int .i64 d).wf = true ∧ t.length ≤ maxLen := by
  unfold keyOf at hv
  simp only [h.hu] at hv
  split at hv
  · rename_i hf
    simp only [Bool.and_eq_true] at hf
    obtain ⟨l, hl, rfl⟩ := Option.map_eq_some_iff.1 hv
    cases v with
    | agg cs =>
      have hc : cs.size = 2 := by simpa [Value.formed, h.hu, h.hc] using hf.2
      obtain ⟨a, b, rfl⟩ : ∃ a b, cs = #[a, b] := by
        match cs, hc with
        | ⟨[a, b]⟩, _ => exact ⟨a, b, rfl⟩
      have hl2 : P.keyLits (P.types.size + 1) k [a, b] = some l := hl
      obtain ⟨n, hn⟩ : ∃ n, P.types.size = n + 1 := ⟨P.types.size - 1, by have := h.sz; omega⟩
      rw [hn] at hl2
      unfold Program.keyLits at hl2
      simp only [h.hu] at hl2
      split at hl2
      · cases h1 : P.keyLits (n + 1) f1.type [a] with
        | none => simp [h.o1, h.o2, h.c1, h.c2, h1] at hl2
        | some x1 =>
        cases h2 : P.keyLits (n + 1) f2.type [b] with
        | none => simp [h.o1, h.o2, h.c1, h.c2, h1, h2] at hl2
        | some x2 =>
        simp [h.o1, h.o2, h.c1, h.c2, h1, h2] at hl2
        subst hl2
        obtain ⟨d, hd, rfl, hdw⟩ : ∃ d, [a] = [Value.int .i64 d] ∧ x1 = [Lit.int .i64 d] ∧ (Lit.int .i64 d).wf = true := by
          obtain ⟨d, e1, e2⟩ := keyLits_int' h.u1 h1
          refine ⟨d, e1, e2, ?_⟩
          rw [e1] at h1
          simp [Program.keyLits, h.u1] at h1
          exact h1.1
        obtain ⟨t, ht, rfl, htw⟩ : ∃ t, [b] = [Value.string t] ∧ x2 = [Lit.string t.data.toList] ∧ t.size ≤ maxLen := by
          obtain ⟨t, e1, e2⟩ := keyLits_string' h.u2 h2
          refine ⟨t, e1, e2, ?_⟩
          rw [e1] at h2
          simp [Program.keyLits, h.u2] at h2
          exact h2.1
        obtain rfl : a = _ := by simpa using hd
        obtain rfl : b = _ := by simpa using ht
        exact ⟨d, t.data.toList, by simp [laneVal, encStr], by simp [laneKey], hdw, by rw [Array.length_toList]; exact htw⟩
      · cases hl2
    | _ => simp [Value.formed, h.hu] at hf
  · cases hv

theorem klaw2 {P : Program} {k : TypeId} (hl : laidOutB P = true) (hrow : k < P.types.size) (hk : P.keyTypeAt 2 k = true) (hw : (match P.underlying k with | some (.array _ _) | some (.struct _) => true | _ => false) = true) : WideMaps.KeyLaw P k := deep_law_laid hl (m := 2) (by omega) hrow hk hw
set_option maxRecDepth 100000 in
theorem pk : ∃ f1 f2, PairKey Tryz.prog 202 f1 f2 :=
  ⟨_, _, { hu := Tryz.underlying202, hk := (by kernel_rfl), hc := (by kernel_rfl), o1 := rfl, o2 := rfl, n1 := (by decide), n2 := (by decide), u1 := Tryz.underlying3, u2 := Tryz.underlying9, c1 := (by kernel_rfl), c2 := (by kernel_rfl), sz := of_decide_eq_true (by kernel_rfl) }⟩
theorem laidOut : laidOutB Tryz.prog = true := by kernel_rfl
theorem rowLane : (202 : TypeId) < Tryz.prog.types.size := of_decide_eq_true (by kernel_rfl)
theorem wideLane : (match Tryz.prog.underlying 202 with | some (.array _ _) | some (.struct _) => true | _ => false) = true := by rw [Tryz.underlying202]
theorem keyAtLane : Tryz.prog.keyTypeAt 2 202 = true := by kernel_rfl
theorem klawLane : WideMaps.KeyLaw Tryz.prog 202 := klaw2 laidOut rowLane keyAtLane wideLane
theorem lawLane : Keyed Tryz.prog 202 := Keyed.of_law klawLane
theorem keyOf_lane {d : Int} {t : List UInt8} (h : LaneOk d t) : keyOf Tryz.prog 202 (laneVal d t) = some (laneKey d t) := by
  obtain ⟨f1, f2, hp⟩ := pk
  exact hp.made d t h.1 h.2
theorem lane_inv {v : Value} {kl : Lit} (h : keyOf Tryz.prog 202 v = some kl) : ∃ d t, v = laneVal d t ∧ kl = laneKey d t ∧ LaneOk d t := by
  obtain ⟨f1, f2, hp⟩ := pk
  exact hp.inv h
theorem laneKey_inj {d d' : Int} {t t' : List UInt8} (h : LaneOk d t) (h' : LaneOk d' t') (e : laneKey d t = laneKey d' t') : d = d' ∧ t = t' := by
  have h1 := keyOf_lane h
  have h2 := keyOf_lane h'
  rw [← e] at h2
  have := klawLane.inj h1 h2
  simpa [laneVal, encStr] using this
theorem laneKey_ne {d d' : Int} {t t' : List UInt8} (h : LaneOk d t) (h' : LaneOk d' t') (hne : ¬ (d = d' ∧ t = t')) : laneKey d t ≠ laneKey d' t' := fun e => hne (laneKey_inj h h' e)
end Go.Proofs.YtojpjaifhjigfaaGreatDoor

/- What the condition on listed sentinels gives (their variables may stand anywhere): each variable's cell holds a pointer of one type, the pointers are different from one another, and each points into a plain block. Of whatever program. -/
namespace Go.Proofs.YtojpjaifhjigfaaGreatDoor.Sents
open Go

/-- What the listed sentinels give a walk: gs: their variables' numbers. -/
structure Holds (W : World) (tp : TypeId) (gs : List Nat) (n : Nat) (A : Nat → Addr) : Prop where
  cell : ∀ i, i < n → W.cell? ⟨gs.getD i 0, 0, Option.none⟩ = some (.iface tp (.pointer (some (A i))))
  block : ∀ i, i < n → ∃ c t, W.heap[(A i).block]? = some (.cells c t (0, 0))
  inj : ∀ i j, i < n → j < n → A i = A j → i = j

/-- A list of sentinels, and their variables' numbers. -/
def Listed (P : Program) (ti : TypeId) (nm : String) : List Nat → List (String × DataW Unit) → Prop
  | _, [] => True
  | [], _ => False
  | g :: gs, (n, d) :: r => (∃ text, d = .iface nm (.ptr (.agg [.lit (.string text)]))) ∧ P.globalNamed n = some g ∧ (P.globals[g]?).map (·.type) = some ti ∧ Listed P ti nm gs r

theorem of_laidVars {P : Program} {W : World} {nm : String} {ti tp te ts : TypeId} {ms : Array (String × TypeId)} {f : Field}
    (hi : P.underlying ti = some (.interface ms)) (hrow : ∀ u, P.typeName? 3 u = some nm → u = tp)
    (hp : P.underlying tp = some (.pointer te)) (he : P.underlying te = some (.struct #[f])) (hft : f.type = ts) (hfo : f.offset = 0) (hs : P.underlying ts = some .string) (hc : P.cellsOf te = 1) (hcs : P.cellsOf ts = 1)
    (l : List (String × DataW Unit)) : ∀ (gs : List Nat) (ps : List MemPlace), Listed P ti nm gs l → DataW.LaidVars P W l ps → ps.Nodup →
      (∀ b off, MemPlace.cell b off ∈ ps → (∃ c t, W.heap[b]? = some (.cells c t (0, 0))) ∧ ∀ u v, W.cell? ⟨b, off, Option.none⟩ = some (.iface u v) → Value.okWide P W .any 0 u v) →
      ∃ A : Nat → Addr, (∀ i, i < l.length → W.cell? ⟨gs.getD i 0, 0, Option.none⟩ = some (.iface tp (.pointer (some (A i)))) ∧ MemPlace.cell (A i).block (A i).off ∈ ps ∧ ∃ s, W.cell? (A i) = some (.string s)) ∧ (∀ i j, i < l.length → j < l.length → A i = A j → i = j) := by
  induction l with
  | nil => exact fun _ ps _ _ _ _ => ⟨fun _ => ⟨0, 0, Option.none⟩, fun i hi => absurd hi (Nat.not_lt_zero _), fun i j hi => absurd hi (Nat.not_lt_zero _)⟩
  | cons x r ih =>
    intro gs0 ps hL hv hnd hrows
    obtain ⟨n, d⟩ := x
    cases gs0 with
    | nil => exact absurd hL (by simp [Listed])
    | cons g gs =>
    obtain ⟨⟨text, rfl⟩, hg, ht, hL'⟩ := hL
    obtain ⟨g0, t0, cs0, f0, p0, q0, hg0, ht0, hv0, hd0, hq, rfl⟩ := hv
    obtain rfl := Option.some.inj (hg.symm.trans hg0)
    obtain rfl := Option.some.inj (ht.symm.trans ht0)
    obtain ⟨l0⟩ := cs0
    have ok0 : ∀ u v, l0 = [.iface u v] → Value.okWide P W .any 0 u v := fun u v e => by
      subst e
      exact (hrows g 0 (by simp [MemPlace.row])).2 u v (by simpa using World.var?_cell hg0 hv0 0)
    obtain ⟨a0, s0, rfl, hc0, hs0, hz0, rfl⟩ := errorString_of_trod hi hrow hp he hft hfo hs hc hcs hd0 ok0
    obtain ⟨A, hA, hinj⟩ := ih gs q0 hL' hq (List.Nodup.sublist (List.sublist_append_right _ _) hnd) (fun b off hm => hrows b off (List.mem_append_right _ hm))
    have hcell0 : W.cell? ⟨g, 0, Option.none⟩ = some (.iface tp (.pointer (some a0))) := by simpa using World.var?_cell hg0 hv0 0
    have hdis : ∀ x, x ∈ MemPlace.row a0 1 → x ∈ q0 → False := by
      intro x h1 h2
      have := List.nodup_append.1 hnd
      exact this.2.2 x (List.mem_append_right _ h1) x h2 rfl
    have hne : ∀ i, i < r.length → A i ≠ a0 := fun i hi e => by
      have hm := (hA i hi).2.1
      rw [e] at hm
      exact hdis _ (by simp [MemPlace.row]) hm
    refine ⟨fun i => match i with | 0 => a0 | i + 1 => A i, ?_, ?_⟩
    · intro i hi
      cases i with
      | zero => exact ⟨by simpa using hcell0, by simp [MemPlace.row], s0, hc0⟩
      | succ i =>
        have h := hA i (by simpa using hi)
        refine ⟨?_, List.mem_append_right _ h.2.1, h.2.2⟩
        simpa using h.1
    · intro i j hi hj e
      cases i with
      | zero =>
        cases j with
        | zero => rfl
        | succ j => exact absurd e.symm (hne j (by simpa using hj))
      | succ i =>
        cases j with
        | zero => exact absurd e (hne i (by simpa using hi))
        | succ j => exact congrArg (· + 1) (hinj i j (by simpa using hi) (by simpa using hj) e)

theorem of_laid {P : Program} {W : World} {nm : String} {ti tp te ts : TypeId} {ms : Array (String × TypeId)} {f : Field} {l : List (String × DataW Unit)} {gs : List Nat}
    (hi : P.underlying ti = some (.interface ms)) (hrow : ∀ u, P.typeName? 3 u = some nm → u = tp)
    (hp : P.underlying tp = some (.pointer te)) (he : P.underlying te = some (.struct #[f])) (hft : f.type = ts) (hfo : f.offset = 0) (hs : P.underlying ts = some .string) (hc : P.cellsOf te = 1) (hcs : P.cellsOf ts = 1)
    (hL : Listed P ti nm gs l) (h : laidMet P l W) : ∃ A : Nat → Addr, Holds W tp gs l.length A := by
  obtain ⟨ps, hv, hnd, hrows⟩ := h
  obtain ⟨A, hA, hinj⟩ := of_laidVars hi hrow hp he hft hfo hs hc hcs l gs ps hL hv hnd hrows
  exact ⟨A, fun i h => (hA i h).1, fun i h => (hrows _ _ (hA i h).2.1).1, hinj⟩

end Go.Proofs.YtojpjaifhjigfaaGreatDoor.Sents

/- The eleven errors: what conduitlaw.errors answers, and how two are held against each other. -/
namespace Go.Proofs.YtojpjaifhjigfaaGreatDoor
open Go.RowKit

/-- The numbers of the eleven errors' variables. -/
abbrev gl : List Nat := [0, 2, 4, 7, 5, 8, 9, 10, 6, 3, 1]
/-- A sentinel's value. -/
abbrev ev (A : Nat → Addr) (i : Nat) : Value := .iface 260 (.pointer (some (A i)))
/-- The new array of errors(). -/
abbrev errCells (A : Nat → Addr) : Array Value := #[ev A 0, ev A 1, ev A 2, ev A 3, ev A 4, ev A 5, ev A 6, ev A 7, ev A 8, ev A 9, ev A 10]

set_option maxHeartbeats 400000 in
theorem errors_any (A : Nat → Addr) (w : World) (hS : Sents.Holds w 260 gl 11 A) :
    Calls Tryz.prog 87 #[] w fun e w' => e = .returned (.slice (some ⟨w.heap.size, 0, none⟩) 11 11) ∧ w' = w.alloc (.cells (errCells A) 71) := by
  have h0 := hS.cell 0 (by decide)
  have h1 := hS.cell 1 (by decide)
  have h2 := hS.cell 2 (by decide)
  have h3 := hS.cell 3 (by decide)
  have h4 := hS.cell 4 (by decide)
  have h5 := hS.cell 5 (by decide)
  have h6 := hS.cell 6 (by decide)
  have h7 := hS.cell 7 (by decide)
  have h8 := hS.cell 8 (by decide)
  have h9 := hS.cell 9 (by decide)
  have h10 := hS.cell 10 (by decide)
  simp only [gl, List.getD_cons_zero, List.getD_cons_succ] at h0 h1 h2 h3 h4 h5 h6 h7 h8 h9 h10
  clear hS
  go_enter Tryz.func87, Tryz.ntmps87
  go_wp2
  go_ret
  exact ⟨rfl, rfl⟩

theorem errCell (A : Nat → Addr) (w : World) (k : Nat) (h : k < 11) : (w.alloc (.cells (errCells A) 71)).cell? ⟨w.heap.size, k, none⟩ = some (ev A k) := by
  rw [World.cell?_alloc_new]
  match k, h with
  | 0, _ => rfl
  | 1, _ => rfl
  | 2, _ => rfl
  | 3, _ => rfl
  | 4, _ => rfl
  | 5, _ => rfl
  | 6, _ => rfl
  | 7, _ => rfl
  | 8, _ => rfl
  | 9, _ => rfl
  | 10, _ => rfl

theorem comp121 : (Tryz.prog.info? 260).map (·.comparable) = some true := by kernel_rfl
theorem size142 : (Tryz.prog.info? 274).map (·.size) = some 1 := by kernel_rfl

end Go.Proofs.YtojpjaifhjigfaaGreatDoor

/- newLasting, newBreaker, slices.Repeat for no batch, strings.Clone: the parts of a new agent. -/
namespace Go.Proofs.YtojpjaifhjigfaaGreatDoor
open Go.RowKit Go.Maps
attribute [local go_sem] run_store_float

theorem obj_new {V : World} {n : Nat} (h : V.heap.size = n) (o : Obj) : (V.alloc o).heap[n]? = some o := by
  subst h
  show (V.heap.push o)[V.heap.size]? = _
  simp

set_option maxHeartbeats 400000 in
theorem newLasting_any (w : World) : Calls Tryz.prog 99 #[] w fun e w' => ∃ b, e = .returned (.agg #[.slice none 0 0, .map (some b), .slice none 0 0, .string ⟨#[]⟩]) ∧ Below w.heap.size w w' ∧ w.heap.size ≤ b ∧ w'.heap[b]? = some (.map #[] 0) := by
  have hmm := @run_makeMap Tryz.prog
  go_enter Tryz.func99, Tryz.ntmps99
  go_wp2
  exact bodyPost_ret (v := .agg #[.slice none 0 0, .map (some (w.heap.size + 1)), .slice none 0 0, .string ⟨#[]⟩]) (by simp [results, Tryz.results99, go_sem]) rfl ⟨_, rfl, ((Below.refl _ _).alloc (Nat.le_refl _) _).alloc (by simp) _, by omega, obj_new (by simp) _⟩

set_option maxHeartbeats 400000 in
theorem newBreaker_any (c : Cfg) (m : Option Nat) (w : World) : Calls Tryz.prog 128 #[c.val m] w fun e w' => ∃ g, e = .returned (.agg #[.func (.func 152) #[] #[.pointer (some ⟨g, 0, none⟩)], .int .i64 0, .int .i64 0, .bool false, .int .i64 0]) ∧ Below w.heap.size w w' ∧ w.heap.size ≤ g ∧ Blk w' g #[.float .f64 c.th] 23 := by
  have hmf : ∀ (fn : Fn) (first cap : Array Value) (w : World), (Instr.makeFunc fn first cap).run Tryz.prog w = .ok (.func fn first cap) w := fun _ _ _ _ => rfl
  go_enter Tryz.func128, Tryz.ntmps128
  go_wp2
  refine bodyPost_ret (v := .agg #[.func (.func 152) #[] #[.pointer (some ⟨w.heap.size + 2, 0, none⟩)], .int .i64 0, .int .i64 0, .bool false, .int .i64 0]) (by simp [results, Tryz.results128, go_sem]) rfl ⟨_, rfl, ?_, ?_, ?_⟩
  · exact (((Below.refl _ _).alloc (Nat.le_refl _) _).alloc (by simp) _).alloc (by simp; omega) _
  · omega
  · exact Blk.made (by simp) _ _
end Go.Proofs.YtojpjaifhjigfaaGreatDoor

/- Rows of structs: which cell is which; and how a store turns them. -/
namespace Go.Proofs.YtojpjaifhjigfaaGreatDoor
open Go.RowKit Go.Maps

theorem flat_get {α : Type} (f : α → List Value) (k : Nat) (hk : ∀ a, (f a).length = k) : ∀ (l : List α) (p j : Nat), j < k → (l.flatMap f)[p * k + j]? = (l[p]?).bind fun a => (f a)[j]?
  | [], p, j, hj => by simp
  | a :: l, 0, j, hj => by
    rw [List.flatMap_cons, Nat.zero_mul, Nat.zero_add, List.getElem?_append_left (by rw [hk]; exact hj)]
    rfl
  | a :: l, p + 1, j, hj => by
    rw [List.flatMap_cons, List.getElem?_append_right (by rw [hk, Nat.succ_mul]; omega), hk, Nat.succ_mul]
    have e : p * k + k + j - k = p * k + j := by omega
    rw [e, flat_get f k hk l p j hj]
    simp
theorem flat_cell {α : Type} (f : α → List Value) (k : Nat) (hk : ∀ a, (f a).length = k) {l : List α} {p j : Nat} {a : α} {v : Value} (hp : l[p]? = some a) (hj : j < k) (hv : (f a)[j]? = some v) : (l.flatMap f)[p * k + j]? = some v := by
  rw [flat_get f k hk l p j hj, hp]; exact hv
theorem flat_set {α : Type} (f : α → List Value) (k : Nat) (hk : ∀ a, (f a).length = k) : ∀ (l : List α) (p j : Nat) (a a' : α) (v : Value), j < k → l[p]? = some a → f a' = (f a).set j v → (l.flatMap f).set (p * k + j) v = (l.set p a').flatMap f
  | [], p, j, a, a', v, hj, h, _ => by simp at h
  | b :: l, 0, j, a, a', v, hj, h, e => by
    simp only [List.getElem?_cons_zero, Option.some.injEq] at h
    subst h
    rw [List.flatMap_cons, Nat.zero_mul, Nat.zero_add, List.set_append_left _ _ (by rw [hk]; exact hj), List.set_cons_zero, List.flatMap_cons, e]
  | b :: l, p + 1, j, a, a', v, hj, h, e => by
    simp only [List.getElem?_cons_succ] at h
    rw [List.flatMap_cons, List.set_append_right _ _ (by rw [hk, Nat.succ_mul]; omega), hk, Nat.succ_mul, List.set_cons_succ, List.flatMap_cons]
    have e2 : p * k + k + j - k = p * k + j := by omega
    rw [e2, flat_set f k hk l p j a a' v hj h e]

theorem ints_get {l : List Nat} {p n : Nat} (h : l[p]? = some n) : (ints l)[p]? = some (.int .i64 (n : Int)) := by simp [ints, h]
theorem strs_get {l : List (List UInt8)} {p : Nat} {s : List UInt8} (h : l[p]? = some s) : (l.map encStr)[p]? = some (encStr s) := by simp [h]

/-- The first k of a row are filled, the rest is as it was made. -/
def filled (xs : List Value) (z : Value) (k : Nat) : List Value := xs.take k ++ List.replicate (xs.length - k) z
theorem filled_zero (xs : List Value) (z : Value) : filled xs z 0 = List.replicate xs.length z := by simp [filled]
theorem filled_all (xs : List Value) (z : Value) : filled xs z xs.length = xs := by simp [filled]
theorem filled_set (xs : List Value) (z : Value) (k : Nat) (v : Value) (h : xs[k]? = some v) : (filled xs z k).set k v = filled xs z (k + 1) := by
  have hk : k < xs.length := (List.getElem?_eq_some_iff.1 h).1
  have hv : xs[k] = v := (List.getElem?_eq_some_iff.1 h).2
  apply List.ext_getElem?
  intro i
  unfold filled
  rw [List.getElem?_set]
  by_cases e : k = i
  · subst e
    rw [if_pos rfl, if_pos (by simp; omega), List.getElem?_append_left (by simp; omega), List.getElem?_take_of_lt (by omega), h]
  · rw [if_neg e]
    by_cases h1 : i < k
    · rw [List.getElem?_append_left (by simp; omega), List.getElem?_append_left (by simp; omega), List.getElem?_take_of_lt h1, List.getElem?_take_of_lt (by omega)]
    · rw [List.getElem?_append_right (by simp; omega), List.getElem?_append_right (by simp; omega), List.getElem?_replicate, List.getElem?_replicate]
      simp only [List.length_take]
      congr 1
      simp
      omega
end Go.Proofs.YtojpjaifhjigfaaGreatDoor

/- Dead: the ids of the dead, in new memory. -/
namespace Go.Proofs.YtojpjaifhjigfaaGreatDoor
open Go.RowKit Go.Maps

theorem infoStr : (Tryz.prog.info? 9).map (fun i => (i.zero, i.size, i.bytes)) = some (some (.string ⟨#[]⟩), 1, 16) := by kernel_rfl
theorem madeStr (n : Nat) : (madeCells (Value.string ⟨#[]⟩).cells (n * 1)).toList = List.replicate n (encStr []) := by
  rw [Nat.mul_one, show (Value.string ⟨#[]⟩).cells = #[Value.string ⟨#[]⟩] from rfl, toList_madeCells_one]


/-- The ids of the dead. -/
def Ag.ids (M : Ag) : List (List UInt8) := M.dead.map fun p => ((M.bs[p]?).map (·.id)).getD []
/-- A new list of texts, with no spare room. -/
def NewTexts (w w' : World) (ss : List (List UInt8)) (e : Ending) : Prop := ∃ g, e = .returned (.slice (some ⟨g, 0, none⟩) ss.length ss.length) ∧ w.heap.size ≤ g ∧ w'.ownsRow w.heap.size 9 1 (.slice (some ⟨g, 0, none⟩) ss.length ss.length) ss.length (ss.map encStr) ∧ Below w.heap.size w w'

set_option maxRecDepth 100000 in
set_option maxHeartbeats 1000000 in
theorem buried_any (L : Labs) (who g : Nat) (M : Ag) (w : World) (h : AgentAt w L who g M) (hd : ∀ p ∈ M.dead, p < M.bs.length) (hb : M.bs.length ≤ 120) (hdl : M.dead.length ≤ 120) :
    Calls Tryz.prog 76 #[.pointer (some ⟨g, 0, none⟩)] w fun e w' => NewTexts w w' M.ids e := by
  obtain ⟨bq, bm, cn, tv, dv, nv, rv, ov, h⟩ := h
  obtain ⟨da, dc, rfl, _⟩ := h.dd.shape
  obtain ⟨ta, tc, rfl, _⟩ := h.tk.shape
  have c0 : w.cell? ⟨g, 0, none⟩ = some (.slice ta M.bs.length tc) := h.blk.1.cell 0
  have c2 : w.cell? ⟨g, 2, none⟩ = some (.slice da M.dead.length dc) := h.blk.1.cell 2
  have hgl := h.blk.1.lt
  obtain ⟨i0, hi, hz0, hz1, hz2⟩ := info_parts infoStr
  have hidl : M.ids.length = M.dead.length := by simp [Ag.ids]
  have HD := hide hd
  have HH := hide h
  have HL := hide hidl
  generalize hn : M.dead.length = n at *
  generalize hm : M.bs.length = m at *
  have Hn := hide hn
  have Hm := hide hm
  clear hd h hidl hn hm
  go_enter Tryz.func76, Tryz.ntmps76
  go_wp2_with (first
    | (at_make; refine wpList_make_full _ rfl _ _ 85 rfl w.heap.size 9 i0 (.string ⟨#[]⟩) 1 Tryz.underlying85 hi hz0 hz1 _ _ _ _ n rfl rfl rfl rfl (by rw [hz2]; omega) (by unfold maxLen; omega) (by simp) ?_; intro w1 hrow hg1; have hB1 : Below w.heap.size w w1 := (Below.refl _ _).grown hg1 (Nat.le_refl _) (fun j hj => by cases hj); have d2 : w1.cell? ⟨g, 2, none⟩ = some (.slice da n dc) := (hB1.cell (p := ⟨g, 2, none⟩) hgl).trans c2; have HR0 := hide hrow; have HB := hide hB1; clear hrow hg1 hB1)
    | fail)
  have hrow := HR0.out
  rw [madeStr] at hrow
  have HR : Hid (w1.ownsRow w.heap.size 9 1 (.slice (some ⟨w.heap.size, 0, none⟩) n n) n (filled (M.ids.map encStr) (encStr []) 0)) := by
    rw [filled_zero, List.length_map, HL.out]; exact hrow
  clear hrow HR0
  go_loopw [17] (fun i wr => ∃ k : Nat, k ≤ n ∧ i = .int .i64 k ∧ wr.ownsRow w.heap.size 9 1 (.slice (some ⟨w.heap.size, 0, none⟩) n n) n (filled (M.ids.map encStr) (encStr []) k) ∧ Below w.heap.size w wr) (fun i _ => n - (intOf i).toNat)
  case atStart => exact ⟨0, Nat.zero_le _, rfl, HR.out, HB.out⟩
  case round =>
    obtain ⟨k, hk, rfl, hr, hnx⟩ := hrel
    have Hr := hide hr
    have Hnx := hide hnx
    clear hr hnx d2
    by_cases hlt : k < n
    · have hltI : (k : Int) < (n : Int) := by omega
      obtain ⟨gd, rfl, hgd, _, hcd, _⟩ := (show RowAt w L (some (who, .dd)) 3 1 (.slice da n dc) n (ints M.dead) by have := HH.out.dd; rw [Hn.out] at this; exact this).head (by omega)
      obtain ⟨p, hp⟩ : ∃ p, M.dead[k]? = some p := ⟨_, List.getElem?_eq_getElem (by rw [Hn.out]; exact hlt)⟩
      have hpm : p < m := HD.out p (List.mem_of_getElem? hp)
      have hpI : (p : Int) < (m : Int) := by omega
      obtain ⟨gt, rfl, hgt, _, hct, _⟩ := (show RowAt w L (some (who, .tk)) 155 6 (.slice ta m tc) m (M.bs.flatMap Bat.cells) by have := HH.out.tk; rw [Hm.out] at this; exact this).head (by omega)
      obtain ⟨b, hb'⟩ : ∃ b, M.bs[p]? = some b := ⟨_, List.getElem?_eq_getElem (by rw [Hm.out]; exact hpm)⟩
      have e0 : wr.cell? ⟨g, 0, none⟩ = some (.slice (some ⟨gt, 0, none⟩) m tc) := by rw [Hnx.out.cell (p := ⟨g, 0, none⟩) hgl]; exact c0
      have e1 : wr.cell? ⟨gd, k, none⟩ = some (.int .i64 p) := by rw [Hnx.out.cell (p := ⟨gd, k, none⟩) hgd]; exact hcd k _ (ints_get hp)
      have e2 : wr.cell? ⟨gt, p * 6 + 2, none⟩ = some (encStr b.id) := by rw [Hnx.out.cell (p := ⟨gt, _, none⟩) hgt]; exact hct _ _ (flat_cell Bat.cells 6 Bat.cells_length hb' (by omega) rfl)
      have e3 : wr.frozen? ⟨w.heap.size, k, none⟩ = false := Hr.out.frozenAt k
      have e4 : (wr.cell? ⟨w.heap.size, k, none⟩).isSome = true := by
        rw [Hr.out.cellAt k (by omega), List.getElem?_eq_getElem (by rw [Hr.out.1]; omega)]
        rfl
      obtain ⟨u4, e4'⟩ := Option.isSome_iff_exists.1 e4
      have Hp := hide hp
      have Hb := hide hb'
      clear hcd hct hp hb' e4
      go_wp2_with fail
      go_roundw
      case rel =>
        refine ⟨k + 1, by omega, by go_num, ?_, Hnx.out.setCell (Nat.le_refl _) _⟩
        have := (Hr.out.stored k (encStr b.id)).1
        rw [filled_set _ _ k _ (by rw [List.getElem?_map]; simp [Ag.ids, Hp.out, Hb.out])] at this
        exact this
      case measure => simp [intOf]; omega
    · have e : k = n := by omega
      subst e
      go_wp2_with fail
      go_ret
      have := Hr.out
      rw [show k = (M.ids.map encStr).length by rw [List.length_map, HL.out], filled_all] at this
      unfold NewTexts
      rw [HL.out]
      exact ⟨_, rfl, Nat.le_refl _, by simpa [HL.out] using this, Hnx.out⟩

set_option maxHeartbeats 400000 in
theorem dead_any (L : Labs) (who g : Nat) (M : Ag) (w : World) (h : AgentAt w L who g M) (hd : ∀ p ∈ M.dead, p < M.bs.length) (hb : M.bs.length ≤ 120) (hdl : M.dead.length ≤ 120) :
    Calls Tryz.prog 35 #[.pointer (some ⟨g, 0, none⟩)] w fun e w' => NewTexts w w' M.ids e := by
  have H := hide (buried_any L who g M w h hd hb hdl)
  clear h hd hb hdl
  go_enter Tryz.func35, Tryz.ntmps35
  go_wp2_with fail
  refine H.out.mono ?_
  rintro e w' ⟨gs, rfl, h1, h2, h3⟩
  have H1 := hide h1
  have H2 := hide h2
  have H3 := hide h3
  clear h1 h2 h3
  go_wp2_with fail
  go_ret
  exact ⟨_, rfl, H1.out, H2.out, H3.out⟩
end Go.Proofs.YtojpjaifhjigfaaGreatDoor

/- How many pending batches each tenant has: what is counted lane by lane, in whatever order. -/
namespace Go.Proofs.YtojpjaifhjigfaaGreatDoor
open Go.RowKit Go.Maps

theorem keyStr {x : List UInt8} (h : x.length ≤ maxLen) : keyOf Tryz.prog 9 (encStr x) = some (.string x) := by
  simp [keyOf, Tryz.underlying9, mapKey, encStr, ByteArray.size, h]



theorem pend_le (bs : List Bat) (d : Int) (t : List UInt8) : (pend bs d t).length ≤ bs.length := by
  unfold pend
  rw [List.length_map]
  refine Nat.le_trans (List.length_filter_le _ _) ?_
  rw [List.length_zipIdx]; exact Nat.le_refl _

/-- What of a lane is counted already. -/
def laneCnt (bs : List Bat) (left : Lit → Bool) (d : Int) (t : List UInt8) : Nat := if left (laneKey d t) then 0 else (pend bs d t).length
/-- What of a tenant is counted already: the lanes of the four destinations. -/
def cntLeft (bs : List Bat) (left : Lit → Bool) (t : List UInt8) : Nat := laneCnt bs left 0 t + laneCnt bs left 1 t + laneCnt bs left 2 t + laneCnt bs left 3 t
/-- How many pending batches a tenant has. -/
def waits (bs : List Bat) (t : List UInt8) : Nat := (pend bs 0 t).length + (pend bs 1 t).length + (pend bs 2 t).length + (pend bs 3 t).length

theorem laneCnt_le (bs : List Bat) (left : Lit → Bool) (d : Int) (t : List UInt8) : laneCnt bs left d t ≤ bs.length := by
  unfold laneCnt
  split
  · exact Nat.zero_le _
  · exact pend_le bs d t
theorem cntLeft_le (bs : List Bat) (left : Lit → Bool) (t : List UInt8) : cntLeft bs left t ≤ 4 * bs.length := by
  have := laneCnt_le bs left 0 t
  have := laneCnt_le bs left 1 t
  have := laneCnt_le bs left 2 t
  have := laneCnt_le bs left 3 t
  unfold cntLeft; omega
theorem cntLeft_end {bs : List Bat} {left : Lit → Bool} (h : ∀ k, left k = false) (t : List UInt8) : cntLeft bs left t = waits bs t := by simp [cntLeft, waits, laneCnt, h]

/-- A map of counts: it holds just those that are above 0. -/
def CountsAre (D : DataW Unit) (f : List UInt8 → Nat) : Prop := ∀ t : List UInt8, t.length ≤ maxLen → (0 < f t → ∀ z, D.atKey (.string t) z = .lit (.int .i64 (f t))) ∧ (f t = 0 → Maps.has D (.string t) = false)
theorem CountsAre.congr {D : DataW Unit} {f g : List UInt8 → Nat} (h : CountsAre D f) (e : ∀ t : List UInt8, t.length ≤ maxLen → f t = g t) : CountsAre D g := fun t ht => by rw [← e t ht]; exact h t ht
theorem CountsAre.look {D : DataW Unit} {f : List UInt8 → Nat} (h : CountsAre D f) {t : List UInt8} (ht : t.length ≤ maxLen) {c : Int} (hc : D.atKey (.string t) (.lit (.int .i64 0)) = .lit (.int .i64 c)) : c = f t := by
  rcases Nat.eq_zero_or_pos (f t) with h0 | h0
  · rw [atKey_of_not_has ((h t ht).2 h0)] at hc
    simp at hc
    omega
  · rw [(h t ht).1 h0] at hc
    simp at hc
    omega
theorem CountsAre.has {D : DataW Unit} {f : List UInt8 → Nat} (h : CountsAre D f) {t : List UInt8} (ht : t.length ≤ maxLen) : Maps.has D (.string t) = decide (0 < f t) := by
  rcases Nat.eq_zero_or_pos (f t) with h0 | h0
  · rw [(h t ht).2 h0]; simp [h0]
  · rw [has_true_of_atKey ((h t ht).1 h0)]; simp [h0]
theorem CountsAre.put {D : DataW Unit} {f : List UInt8 → Nat} (h : CountsAre D f) (hD : IsMap D) {t : List UInt8} {n : Nat} (hn : 0 < n) : CountsAre (D.put (.string t) (.lit (.int .i64 n))) (fun t' => if t' = t then n else f t') := fun t' ht' => by
  by_cases e : t' = t
  · subst e
    simp only [if_true]
    exact ⟨fun _ z => atKey_put_same hD (by trivial) _ _, fun h0 => by omega⟩
  · simp only [if_neg e]
    have hne : Lit.string t' ≠ Lit.string t := fun he => e (by simpa using he)
    exact ⟨fun h0 z => by rw [atKey_put_other hne]; exact (h t' ht').1 h0 z, fun h0 => by rw [has_put_other hne]; exact (h t' ht').2 h0⟩

theorem sameKey_lane {d d' : Int} {t t' : List UInt8} (h : LaneOk d t) (h' : LaneOk d' t') : (laneKey d t).sameKey (laneKey d' t') = decide (d = d' ∧ t = t') := by
  by_cases e : d = d' ∧ t = t'
  · obtain ⟨rfl, rfl⟩ := e
    simp [laneKey, Lit.sameKey]
  · rw [sameKey_ne (laneKey_ne h h' e)]; simp [e]
theorem laneOk_small {d : Int} {t : List UInt8} (h0 : 0 ≤ d) (h1 : d < 4) (ht : t.length ≤ maxLen) : LaneOk d t := ⟨WalkArith.wf_i64 (by omega), ht⟩
theorem laneCnt_step {bs : List Bat} {left : Lit → Bool} {d d' : Int} {t t' : List UInt8} (h : LaneOk d t) (h' : LaneOk d' t') (hl : left (laneKey d t) = true) :
    laneCnt bs (fun z => left z && !z.sameKey (laneKey d t)) d' t' = laneCnt bs left d' t' + (if d' = d ∧ t' = t then (pend bs d t).length else 0) := by
  unfold laneCnt
  simp only [sameKey_lane h' h]
  by_cases e : d' = d ∧ t' = t
  · obtain ⟨rfl, rfl⟩ := e
    simp [hl]
  · simp [e]
theorem cntLeft_step {bs : List Bat} {left : Lit → Bool} {d : Int} {t t' : List UInt8} (h : LaneOk d t) (h0 : 0 ≤ d) (h1 : d < 4) (ht' : t'.length ≤ maxLen) (hl : left (laneKey d t) = true) :
    cntLeft bs (fun z => left z && !z.sameKey (laneKey d t)) t' = if t' = t then cntLeft bs left t + (pend bs d t).length else cntLeft bs left t' := by
  have k := fun i (a : 0 ≤ i) (b : i < 4) => laneCnt_step (bs := bs) (d' := i) (t' := t') h (laneOk_small a b ht') hl
  unfold cntLeft
  rw [k 0 (by omega) (by omega), k 1 (by omega) (by omega), k 2 (by omega) (by omega), k 3 (by omega) (by omega)]
  by_cases e : t' = t
  · subst e
    simp only [and_true, if_true]
    have : d = 0 ∨ d = 1 ∨ d = 2 ∨ d = 3 := by omega
    rcases this with rfl | rfl | rfl | rfl <;> simp <;> omega
  · simp [e]
theorem countsAre_start {bs : List Bat} {D : DataW Value} (h : ∀ d t, LaneOk d t → pend bs d t ≠ [] → Maps.has D (laneKey d t) = true) : CountsAre (.map []) (cntLeft bs (Maps.has D)) := fun t ht => by
  have k : ∀ d : Int, 0 ≤ d → d < 4 → laneCnt bs (Maps.has D) d t = 0 := fun d a b => by
    unfold laneCnt
    split
    · rfl
    · rename_i hf
      rcases Nat.eq_zero_or_pos (pend bs d t).length with h0 | h0
      · exact h0
      · exact absurd (h d t (laneOk_small a b ht) (fun e => by rw [e] at h0; simp at h0)) hf
  have e : cntLeft bs (Maps.has D) t = 0 := by
    unfold cntLeft
    rw [k 0 (by omega) (by omega), k 1 (by omega) (by omega), k 2 (by omega) (by omega), k 3 (by omega) (by omega)]
  rw [e]
  exact ⟨fun h0 => by omega, fun _ => rfl⟩
theorem hdr_of_at {D : DataW Value} {d : Int} {t : List UInt8} {v : Value} (h : ∀ z, D.atKey (laneKey d t) z = .held v) : hdr D d t = v := by simp [hdr, h]
end Go.Proofs.YtojpjaifhjigfaaGreatDoor
