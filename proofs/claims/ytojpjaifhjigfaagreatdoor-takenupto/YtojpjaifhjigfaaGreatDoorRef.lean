/- The document's agent in memory; place, tenant, pending, Waits, Status. -/
import Derived.Test.YtojpjaifhjigfaaGreatDoorRefOpen
import Derived.Test.YtojpjaifhjigfaaGreatDoorBookWhole
import Derived.Test.YtojpjaifhjigfaaGreatDoorPlace
namespace Go.Proofs.YtojpjaifhjigfaaGreatDoor
open Go.RowKit Go.Maps

/-- A batch of the document's: with its pause, and when it may go. -/
structure RBat where
  b : Bat
  pa : Int
  af : Int
def RBat.cells (r : RBat) : List Value := r.b.cells ++ [.int .i64 r.pa, .int .i64 r.af]
theorem RBat.cells_length (r : RBat) : r.cells.length = 8 := rfl
theorem RBat.cell {l : List RBat} {p j : Nat} {r : RBat} {v : Value} (hp : l[p]? = some r) (hj : j < 8) (hv : r.cells[j]? = some v) : (l.flatMap RBat.cells)[p * 8 + j]? = some v := flat_cell RBat.cells 8 RBat.cells_length hp hj hv
/-- The document's agent. -/
structure Rf where
  c : Cfg
  m : Option Nat
  ns : List (List UInt8)
  rs : List RBat
  dead : List Nat
  time : Int
def Rf.bs (R : Rf) : List Bat := R.rs.map (·.b)

/-- Where its parts lie. -/
structure RfAt (w : World) (L : Labs) (who g : Nat) (R : Rf) (nv qv bv dv : Value) (la : Option Addr) (lk : Nat) : Prop where
  blk : BlkAt w L (some (who, .ag)) g (refCells R.c R.m nv qv bv dv (.slice la R.c.d.toNat lk) R.time) 109
  nm : RowAt w L (some (who, .nm)) 9 1 nv R.ns.length (R.ns.map encStr)
  tk : RowAt w L (some (who, .tk)) 112 8 bv R.rs.length (R.rs.flatMap RBat.cells)
  dd : RowAt w L (some (who, .dd)) 3 1 dv R.dead.length (ints R.dead)
def RefAt (w : World) (L : Labs) (who g : Nat) (R : Rf) : Prop := ∃ nv qv bv dv la lk, RfAt w L who g R nv qv bv dv la lk
theorem RefAt.keep {w w' : World} {L L' : Labs} {who g : Nat} {R : Rf} (h : RefAt w L who g R) {p : Lab → Prop} (s : Step p L w L' w') (hp : ∀ q, ¬ p (some (who, q))) : RefAt w' L' who g R := by
  obtain ⟨nv, qv, bv, dv, la, lk, h⟩ := h
  exact ⟨nv, qv, bv, dv, la, lk, h.blk.keep s (hp _), h.nm.keep s (hp _), h.tk.keep s (hp _), h.dd.keep s (hp _)⟩
theorem RefAt.alloc {w : World} {L : Labs} {who g : Nat} {R : Rf} (h : RefAt w L who g R) (o : Obj) : RefAt (w.alloc o) L who g R := h.keep (Step.alloc (p := fun _ => False) L w o) (fun _ h => h)

theorem Rf.get {R : Rf} {k : Nat} {r : RBat} (h : R.rs[k]? = some r) : R.bs[k]? = some r.b := by simp [Rf.bs, h]

set_option maxRecDepth 100000 in
set_option maxHeartbeats 1000000 in
theorem refPlace_any (L : Labs) (who g : Nat) (R : Rf) (id : List UInt8) (w : World) (h : RefAt w L who g R) (hb : R.rs.length ≤ 120) :
    Calls Tryz.prog 85 #[.pointer (some ⟨g, 0, none⟩), encStr id] w fun e w' => e = .returned (.int .i64 (findId R.bs id)) ∧ w' = w := by
  obtain ⟨nv, qv, bv, dv, la, lk, h⟩ := h
  obtain ⟨ta, tc, rfl, _⟩ := h.tk.shape
  have c13 : w.cell? ⟨g, 13, none⟩ = some (.slice ta R.rs.length tc) := h.blk.1.cell 13
  have HT := hide h.tk
  have hbl : R.bs.length = R.rs.length := by simp [Rf.bs]
  generalize hn : R.rs.length = n at *
  have Hn := hide hn
  have Hbl := hide hbl
  clear h hn hbl
  go_enter Tryz.func85, Tryz.ntmps85
  go_wp2_with fail
  go_loop [5] (fun i => ∃ k : Nat, k ≤ n ∧ i = .int .i64 k ∧ (∀ j b, j < k → R.bs[j]? = some b → (b.id == id) = false)) (fun i => n - (intOf i).toNat)
  case atStart => exact ⟨0, Nat.zero_le _, rfl, fun j b hj => by omega⟩
  case round =>
    obtain ⟨k, hk, rfl, hno⟩ := hrel
    have Hno := hide hno
    clear hno
    by_cases hlt : k < n
    · have hltI : (k : Int) < (n : Int) := by omega
      obtain ⟨gt, rfl, hgt, _, hct, _⟩ := HT.out.head (by omega)
      obtain ⟨r, hr⟩ : ∃ r, R.rs[k]? = some r := ⟨_, List.getElem?_eq_getElem (by rw [Hn.out]; exact hlt)⟩
      have e2 : w.cell? ⟨gt, k * 8 + 2, none⟩ = some (encStr r.b.id) := hct _ _ (RBat.cell hr (by omega) rfl)
      have Hr := hide hr
      clear hct hr
      cases hid : (r.b.id == id)
      · have Hid' := hide hid
        go_wp2_with fail
        go_round
        case rel =>
          refine ⟨k + 1, by omega, by go_num, fun j b' hj hj' => ?_⟩
          rcases Nat.lt_succ_iff_lt_or_eq.1 hj with h1 | h1
          · exact Hno.out j b' h1 hj'
          · subst h1
            rw [Rf.get Hr.out] at hj'
            cases hj'
            exact Hid'.out
        case measure => simp [intOf]; omega
      · have Hid' := hide hid
        go_wp2_with fail
        go_ret
        refine ⟨ret_int ?_, rfl⟩
        have hkb : k < R.bs.length := by rw [Hbl.out]; exact hlt
        have : R.bs.findIdx? (fun b => b.id == id) = some k := by
          rw [List.findIdx?_eq_some_iff_getElem]
          refine ⟨hkb, ?_, fun j hj => ?_⟩
          · obtain ⟨h1, h2⟩ := List.getElem?_eq_some_iff.1 (Rf.get Hr.out)
            simp only [h2]; exact Hid'.out
          · simp [Hno.out j _ hj (List.getElem?_eq_getElem (by omega))]
        simp [findId, this]
    · go_wp2_with fail
      go_ret
      refine ⟨ret_int ?_, rfl⟩
      have : R.bs.findIdx? (fun b => b.id == id) = none := by
        rw [List.findIdx?_eq_none_iff]
        intro b hb
        obtain ⟨j, hj, rfl⟩ := List.getElem_of_mem hb
        exact Hno.out j _ (by rw [Hbl.out] at hj; omega) (List.getElem?_eq_getElem hj)
      simp [findId, this]

/-- Where a name lies: -1, if it does not. -/
def findN (ns : List (List UInt8)) (x : List UInt8) : Int := match ns.findIdx? (fun y => y == x) with | some i => i | none => -1
theorem findN_neg (ns : List (List UInt8)) (x : List UInt8) : findN ns x < 0 ↔ x ∉ ns := by
  unfold findN
  cases h : ns.findIdx? (fun y => y == x) with
  | none =>
    rw [List.findIdx?_eq_none_iff] at h
    exact ⟨fun _ hm => by simpa using h x hm, fun _ => by simp⟩
  | some i =>
    rw [List.findIdx?_eq_some_iff_getElem] at h
    obtain ⟨h1, h2, _⟩ := h
    have : x ∈ ns := by
      have e : ns[i] = x := by simpa using h2
      rw [← e]; exact List.getElem_mem h1
    simp [this]

set_option maxRecDepth 100000 in
set_option maxHeartbeats 1000000 in
theorem refTenant_any (L : Labs) (who g : Nat) (R : Rf) (x : List UInt8) (w : World) (h : RefAt w L who g R) (hb : R.ns.length ≤ 120) :
    Calls Tryz.prog 84 #[.pointer (some ⟨g, 0, none⟩), encStr x] w fun e w' => e = .returned (.int .i64 (findN R.ns x)) ∧ w' = w := by
  obtain ⟨nv, qv, bv, dv, la, lk, h⟩ := h
  obtain ⟨ta, tc, rfl, _⟩ := h.nm.shape
  have c11 : w.cell? ⟨g, 11, none⟩ = some (.slice ta R.ns.length tc) := h.blk.1.cell 11
  have HT := hide h.nm
  generalize hn : R.ns.length = n at *
  have Hn := hide hn
  clear h hn
  go_enter Tryz.func84, Tryz.ntmps84
  go_wp2_with fail
  go_loop [5] (fun i => ∃ k : Nat, k ≤ n ∧ i = .int .i64 k ∧ (∀ j y, j < k → R.ns[j]? = some y → (y == x) = false)) (fun i => n - (intOf i).toNat)
  case atStart => exact ⟨0, Nat.zero_le _, rfl, fun j b hj => by omega⟩
  case round =>
    obtain ⟨k, hk, rfl, hno⟩ := hrel
    have Hno := hide hno
    clear hno
    by_cases hlt : k < n
    · have hltI : (k : Int) < (n : Int) := by omega
      obtain ⟨gt, rfl, hgt, _, hct, _⟩ := HT.out.head (by omega)
      obtain ⟨r, hr⟩ : ∃ r, R.ns[k]? = some r := ⟨_, List.getElem?_eq_getElem (by rw [Hn.out]; exact hlt)⟩
      have e2 : w.cell? ⟨gt, k, none⟩ = some (encStr r) := hct _ _ (strs_get hr)
      have Hr := hide hr
      clear hct hr
      cases hid : (r == x)
      · have Hid' := hide hid
        go_wp2_with fail
        go_round
        case rel =>
          refine ⟨k + 1, by omega, by go_num, fun j b' hj hj' => ?_⟩
          rcases Nat.lt_succ_iff_lt_or_eq.1 hj with h1 | h1
          · exact Hno.out j b' h1 hj'
          · subst h1
            rw [Hr.out] at hj'
            cases hj'
            exact Hid'.out
        case measure => simp [intOf]; omega
      · have Hid' := hide hid
        go_wp2_with fail
        go_ret
        refine ⟨ret_int ?_, rfl⟩
        have : R.ns.findIdx? (fun y => y == x) = some k := by
          rw [List.findIdx?_eq_some_iff_getElem]
          refine ⟨by rw [Hn.out]; exact hlt, ?_, fun j hj => ?_⟩
          · obtain ⟨h1, h2⟩ := List.getElem?_eq_some_iff.1 Hr.out
            simp only [h2]; exact Hid'.out
          · have := Hno.out j _ hj (List.getElem?_eq_getElem (by rw [Hn.out]; omega))
            simpa using this
        simp [findN, this]
    · go_wp2_with fail
      go_ret
      refine ⟨ret_int ?_, rfl⟩
      have : R.ns.findIdx? (fun y => y == x) = none := by
        rw [List.findIdx?_eq_none_iff]
        intro b hb
        obtain ⟨j, hj, rfl⟩ := List.getElem_of_mem hb
        exact Hno.out j _ (by rw [Hn.out] at hj; omega) (List.getElem?_eq_getElem hj)
      simp [findN, this]

/-- How many of a tenant are pending. -/
def cntP (bs : List Bat) (t : List UInt8) : Nat := (bs.filter fun b => (b.ten == t) && decide (b.st = 1)).length
theorem cntP_le (bs : List Bat) (t : List UInt8) : cntP bs t ≤ bs.length := List.length_filter_le _ _
theorem cntP_step {bs : List Bat} {k : Nat} {b : Bat} (h : bs[k]? = some b) (t : List UInt8) : cntP (bs.take (k + 1)) t = cntP (bs.take k) t + (if (b.ten == t) && decide (b.st = 1) then 1 else 0) := by
  have hk : k < bs.length := (List.getElem?_eq_some_iff.1 h).1
  have hb : bs[k] = b := (List.getElem?_eq_some_iff.1 h).2
  unfold cntP
  rw [List.take_succ_eq_append_getElem hk, List.filter_append, List.length_append, hb]
  congr 1
  simp only [List.filter_cons, List.filter_nil]
  split <;> simp

set_option maxRecDepth 100000 in
set_option maxHeartbeats 1000000 in
theorem refPending_any (L : Labs) (who g : Nat) (R : Rf) (x : List UInt8) (w : World) (h : RefAt w L who g R) (hb : R.rs.length ≤ 120) :
    Calls Tryz.prog 86 #[.pointer (some ⟨g, 0, none⟩), encStr x] w fun e w' => e = .returned (.int .i64 (cntP R.bs x)) ∧ w' = w := by
  obtain ⟨nv, qv, bv, dv, la, lk, h⟩ := h
  obtain ⟨ta, tc, rfl, _⟩ := h.tk.shape
  have c13 : w.cell? ⟨g, 13, none⟩ = some (.slice ta R.rs.length tc) := h.blk.1.cell 13
  have HT := hide h.tk
  have hbl : R.bs.length = R.rs.length := by simp [Rf.bs]
  generalize hn : R.rs.length = n at *
  have Hn := hide hn
  have Hbl := hide hbl
  clear h hn hbl
  go_enter Tryz.func86, Tryz.ntmps86
  go_wp2_with fail
  go_loop [5, 6] (fun q i => ∃ k c : Nat, k ≤ n ∧ c ≤ k ∧ i = .int .i64 k ∧ q = .int .i64 c ∧ Hid (c = cntP (R.bs.take k) x)) (fun _ i => n - (intOf i).toNat)
  case atStart => exact ⟨0, 0, Nat.zero_le _, Nat.le_refl _, rfl, rfl, by simp [Hid, cntP]⟩
  case round =>
    obtain ⟨k, c, hk, hck, rfl, rfl, Hc⟩ := hrel
    by_cases hlt : k < n
    · have hltI : (k : Int) < (n : Int) := by omega
      obtain ⟨gt, rfl, hgt, _, hct, _⟩ := HT.out.head (by omega)
      obtain ⟨r, hr⟩ : ∃ r, R.rs[k]? = some r := ⟨_, List.getElem?_eq_getElem (by rw [Hn.out]; exact hlt)⟩
      have e1 : w.cell? ⟨gt, k * 8 + 1, none⟩ = some (encStr r.b.ten) := hct _ _ (RBat.cell hr (by omega) rfl)
      have e4 : w.cell? ⟨gt, k * 8 + 4, none⟩ = some (.int .i64 r.b.st) := hct _ _ (RBat.cell hr (by omega) rfl)
      have Hst : Hid (cntP (R.bs.take (k + 1)) x = cntP (R.bs.take k) x + (if (r.b.ten == x) && decide (r.b.st = 1) then 1 else 0)) := cntP_step (Rf.get hr) x
      clear hct hr
      cases hid : (r.b.ten == x)
      · have Hid' := hide hid
        go_wp2_with fail
        go_round
        case rel => exact ⟨k + 1, c, by omega, by omega, by go_num, rfl, by have := Hst.out; rw [Hid'.out] at this; simp at this; exact Hc.out.trans this.symm⟩
        case measure => simp [intOf]; omega
      · have Hid' := hide hid
        by_cases hst : r.b.st = 1
        · have Hs := hide hst
          go_wp2_with fail
          go_round
          case rel => exact ⟨k + 1, c + 1, by omega, by omega, by go_num, by go_num, by have := Hst.out; rw [Hid'.out, Hs.out] at this; simp at this; show c + 1 = _; rw [this, Hc.out]⟩
          case measure => simp [intOf]; omega
        · have Hs := hide hst
          go_wp2_with fail
          go_round
          case rel => exact ⟨k + 1, c, by omega, by omega, by go_num, rfl, by have := Hst.out; rw [Hid'.out] at this; simp [Hs.out] at this; exact Hc.out.trans this.symm⟩
          case measure => simp [intOf]; omega
    · go_wp2_with fail
      go_ret
      refine ⟨ret_int ?_, rfl⟩
      have := Hc.out
      rw [List.take_of_length_le (by rw [Hbl.out]; omega)] at this
      rw [this]

set_option maxHeartbeats 400000 in
theorem refWaits_any (L : Labs) (who g : Nat) (R : Rf) (t : Nat) (x : List UInt8) (w : World) (h : RefAt w L who g R) (hb : R.rs.length ≤ 120) (hx : R.ns[t]? = some x) :
    Calls Tryz.prog 121 #[.pointer (some ⟨g, 0, none⟩), .int .i64 t] w fun e w' => e = .returned (.int .i64 (cntP R.bs x)) ∧ w' = w := by
  have H := hide (refPending_any L who g R x w h hb)
  obtain ⟨nv, qv, bv, dv, la, lk, h⟩ := h
  obtain ⟨ta, tc, rfl, _⟩ := h.nm.shape
  have htl : t < R.ns.length := (List.getElem?_eq_some_iff.1 hx).1
  obtain ⟨gt, rfl, hgt, _, hct, _⟩ := h.nm.head (by omega)
  have c11 : w.cell? ⟨g, 11, none⟩ = some (.slice (some ⟨gt, 0, none⟩) R.ns.length tc) := h.blk.1.cell 11
  have e2 : w.cell? ⟨gt, t, none⟩ = some (encStr x) := hct _ _ (strs_get hx)
  have htI : (t : Int) < (R.ns.length : Int) := by omega
  clear h hct
  go_enter Tryz.func121, Tryz.ntmps121
  go_wp2_with fail
  refine H.out.mono ?_
  rintro e w' ⟨rfl, hw⟩
  have Hw := hide hw
  clear hw
  go_wp2_with fail
  go_ret
  exact ⟨rfl, Hw.out⟩
end Go.Proofs.YtojpjaifhjigfaaGreatDoor
