/- The program's agent: what it holds, as plain data; and how that lies in memory. -/
import Derived.Test.YtojpjaifhjigfaaGreatDoorIsConfig
import Derived.Test.YtojpjaifhjigfaaGreatDoorFoot
namespace Go.Proofs.YtojpjaifhjigfaaGreatDoor
open Go.RowKit Go.Maps

/-- A batch that was taken, and what has become of it. -/
structure Bat where
  dst : Int
  ten : List UInt8
  id : List UInt8
  body : List UInt8
  st : Int
  fl : Int
def Bat.cells (b : Bat) : List Value := [.int .i64 b.dst, encStr b.ten, encStr b.id, encStr b.body, .int .i64 b.st, .int .i64 b.fl]
theorem Bat.cells_length (b : Bat) : b.cells.length = 6 := rfl
/-- When a batch may go again. -/
structure Ret where
  fr : Int
  pa : Int
def Ret.cells (r : Ret) : List Value := [.int .i64 r.fr, .int .i64 r.pa]
/-- A destination. -/
structure Out where
  res : Int
  fl : Int
  trip : Bool
  unt : Int
  turn : Nat
  cr : List Int
  sends : Int
  way : Int
  began : Int
def Out.cells (o : Out) (fv cv : Value) : List Value := [fv, .int .i64 o.res, .int .i64 o.fl, .bool o.trip, .int .i64 o.unt, .int .i64 o.turn, cv, .int .i64 o.sends, .int .i64 o.way, .int .i64 o.began]
/-- An agent. -/
structure Ag where
  c : Cfg
  D : DataW Unit
  ns : List (List UInt8)
  bs : List Bat
  dead : List Nat
  log : List UInt8
  now : Int
  rt : List Ret
  os : List Out

/-- The places of a lane's pending batches. -/
def pend (bs : List Bat) (d : Int) (t : List UInt8) : List Nat := (bs.zipIdx.filter fun p => decide (p.1.dst = d) && decide (p.1.ten = t) && decide (p.1.st = 1)).map (·.2)
def ints (l : List Nat) : List Value := l.map fun n : Nat => .int .i64 (n : Int)
def intsI (l : List Int) : List Value := l.map fun n => .int .i64 n

/-- How a lane reads as a key. -/
def laneKey (d : Int) (t : List UInt8) : Lit := .string (keyBytes [.int .i64 d, .string t])
def laneVal (d : Int) (t : List UInt8) : Value := .agg #[.int .i64 d, encStr t]
/-- An element of the map of queues reads as the slice that it is. -/
def Rq (v : Value) : Option (DataW Value × List MemPlace) := match v with | .slice _ _ _ => some (.held v, []) | _ => none
/-- The slice at a lane (nil, where there is none). -/
def hdr (D : DataW Value) (d : Int) (t : List UInt8) : Value := match D.atKey (laneKey d t) (.held (.slice none 0 0)) with | .held v => v | _ => .slice none 0 0

/-- A lane that can be a key. -/
def LaneOk (d : Int) (t : List UInt8) : Prop := (Lit.int .i64 d).wf = true ∧ t.length ≤ maxLen
/-- The queues: a map from lanes to rows of places, each row with a label of its own. -/
def QueuesAt (w : World) (L : Labs) (who b : Nat) (bs : List Bat) : Prop :=
  ∃ D : DataW Value, OMapAt w L (some (who, .qm)) Tryz.prog 202 Rq b (Maps.size D) D ∧ Maps.size D ≤ bs.length ∧ (∀ d t, LaneOk d t → Maps.has D (laneKey d t) = true → 0 ≤ d ∧ d < 4) ∧
    (∀ d t, LaneOk d t → pend bs d t ≠ [] → Maps.has D (laneKey d t) = true) ∧ ∀ d t, LaneOk d t → RowAt w L (some (who, .qr d t)) 3 1 (hdr D d t) (pend bs d t).length (ints (pend bs d t))

/-- A destination in memory: what its breaker asks, and its credits. -/
def OutAt (w : World) (L : Labs) (who i : Nat) (th : Nat) (o : Out) (fv cv : Value) : Prop :=
  ∃ g, fv = .func (.func 152) #[] #[.pointer (some ⟨g, 0, none⟩)] ∧ BlkAt w L (some (who, .th 0)) g #[.float .f64 th] 23 ∧ RowAt w L (some (who, .cr i)) 3 1 cv o.cr.length (intsI o.cr)
/-- All destinations: the row's cells are those of each, in order. -/
def OutsAt (w : World) (L : Labs) (who th : Nat) (v : Value) (os : List Out) : Prop :=
  ∃ fs : List (Value × Value), fs.length = os.length ∧ RowAt w L (some (who, .ol)) 149 10 v os.length ((os.zip fs).flatMap fun p => p.1.cells p.2.1 p.2.2) ∧
    ∀ i o f, os[i]? = some o → fs[i]? = some f → OutAt w L who i th o f.1 f.2

def agCells (bq bm : Nat) (tv dv nv rv ov : Value) (M : Ag) : Array Value :=
  #[tv, .map (some bq), dv, encStr M.log, .int .i64 M.c.d, .map (some bm), .int .i64 M.c.q, .int .i64 M.c.at', .int .i64 M.c.ba, .int .i64 M.c.ca, .int .i64 M.c.ti, .int .i64 M.c.wi, .int .i64 M.c.le, .float .f64 M.c.th, .int .i64 M.c.op, nv, .int .i64 M.now, rv, ov]

/-- Where an agent's parts lie. -/
structure AgAt (w : World) (L : Labs) (who g : Nat) (M : Ag) (bq bm cn : Nat) (tv dv nv rv ov : Value) : Prop where
  blk : BlkAt w L (some (who, .ag)) g (agCells bq bm tv dv nv rv ov M) 138
  tk : RowAt w L (some (who, .tk)) 155 6 tv M.bs.length (M.bs.flatMap Bat.cells)
  qs : QueuesAt w L who bq M.bs
  dd : RowAt w L (some (who, .dd)) 3 1 dv M.dead.length (ints M.dead)
  nm : RowAt w L (some (who, .nm)) 9 1 nv M.ns.length (M.ns.map encStr)
  rt : RowAt w L (some (who, .rt)) 189 2 rv M.rt.length (M.rt.flatMap Ret.cells)
  ol : OutsAt w L who M.c.th ov M.os
  cm : OMapAt w L (some (who, .cm)) Tryz.prog 9 (plainElem Tryz.prog 3) bm cn M.D
/-- An agent in memory. -/
def AgentAt (w : World) (L : Labs) (who g : Nat) (M : Ag) : Prop := ∃ bq bm cn tv dv nv rv ov, AgAt w L who g M bq bm cn tv dv nv rv ov

/-- What belongs to one owner. -/
def ofP (who : Nat) : Lab → Prop := fun l => ∃ q, l = some (who, q)
theorem not_ofP {who who' : Nat} (h : who ≠ who') (q : Part) : ¬ ofP who (some (who', q)) := fun ⟨q', e⟩ => by simp at e; omega

theorem QueuesAt.keep {w w' : World} {L L' : Labs} {who b : Nat} {bs : List Bat} (h : QueuesAt w L who b bs) {p : Lab → Prop} (s : Step p L w L' w') (h1 : ¬ p (some (who, .qm))) (h2 : ∀ d t, ¬ p (some (who, .qr d t))) : QueuesAt w' L' who b bs := by
  obtain ⟨D, q1, q2, q3, q4, q5⟩ := h
  exact ⟨D, q1.keep s h1, q2, q3, q4, fun d t h => (q5 d t h).keep s (h2 d t)⟩
theorem OutsAt.keep {w w' : World} {L L' : Labs} {who th : Nat} {v : Value} {os : List Out} (h : OutsAt w L who th v os) {p : Lab → Prop} (s : Step p L w L' w') (h1 : ¬ p (some (who, .ol))) (h2 : ∀ i, ¬ p (some (who, .th i))) (h3 : ∀ i, ¬ p (some (who, .cr i))) : OutsAt w' L' who th v os := by
  obtain ⟨fs, q1, q2, q3⟩ := h
  refine ⟨fs, q1, q2.keep s h1, fun i o f ho hf => ?_⟩
  obtain ⟨g, r1, r2, r3⟩ := q3 i o f ho hf
  exact ⟨g, r1, r2.keep s (h2 0), r3.keep s (h3 i)⟩
theorem AgAt.keep {w w' : World} {L L' : Labs} {who g : Nat} {M : Ag} {bq bm cn : Nat} {tv dv nv rv ov : Value} (h : AgAt w L who g M bq bm cn tv dv nv rv ov) {p : Lab → Prop} (s : Step p L w L' w') (hp : ∀ q, ¬ p (some (who, q))) : AgAt w' L' who g M bq bm cn tv dv nv rv ov :=
  ⟨h.blk.keep s (hp _), h.tk.keep s (hp _), h.qs.keep s (hp _) (fun _ _ => hp _), h.dd.keep s (hp _), h.nm.keep s (hp _), h.rt.keep s (hp _), h.ol.keep s (hp _) (fun _ => hp _) (fun _ => hp _), h.cm.keep s (hp _)⟩
theorem AgentAt.keep {w w' : World} {L L' : Labs} {who g : Nat} {M : Ag} (h : AgentAt w L who g M) {p : Lab → Prop} (s : Step p L w L' w') (hp : ∀ q, ¬ p (some (who, q))) : AgentAt w' L' who g M := by
  obtain ⟨bq, bm, nm, tv, dv, nv, rv, ov, h⟩ := h
  exact ⟨bq, bm, nm, tv, dv, nv, rv, ov, h.keep s hp⟩
theorem AgentAt.other {w w' : World} {L L' : Labs} {who who' g : Nat} {M : Ag} (h : AgentAt w L who' g M) (s : Step (ofP who) L w L' w') (hne : who ≠ who') : AgentAt w' L' who' g M := h.keep s (fun q => not_ofP hne q)

theorem pend_nil (d : Int) (t : List UInt8) : pend [] d t = [] := rfl

/-- An agent that has taken nothing. -/
def Ag.new (c : Cfg) (D : DataW Unit) (ns : List (List UInt8)) : Ag :=
  { c := c, D := D, ns := ns, bs := [], dead := [], log := [], now := 0, rt := [], os := List.replicate c.d.toNat { res := 0, fl := 0, trip := false, unt := 0, turn := 0, cr := List.replicate ns.length 0, sends := 0, way := -1, began := 0 } }

end Go.Proofs.YtojpjaifhjigfaaGreatDoor
