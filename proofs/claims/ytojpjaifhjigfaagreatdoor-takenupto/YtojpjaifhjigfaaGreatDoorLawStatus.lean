/- is, (*pair).status. -/
import Derived.Test.YtojpjaifhjigfaaGreatDoorLawDead
import Derived.Test.YtojpjaifhjigfaaGreatDoorOpenEmpty
namespace Go.Proofs.YtojpjaifhjigfaaGreatDoor
open Go.RowKit Go.Maps

theorem eql_same (A : Nat → Addr) (i : Nat) (w : World) : (binOp .eql 71 (ev A i) (ev A i)).run Tryz.prog w = .ok (.bool true) w := by
  obtain ⟨i1, hi1, hcmp⟩ := Option.map_eq_some_iff.1 comp121
  obtain ⟨j1, hj1, _⟩ := Option.map_eq_some_iff.1 size142
  exact run_eql_iface_ptr_same w (A i) Tryz.underlying71 Tryz.underlying260 hi1 hcmp hj1

set_option maxHeartbeats 400000 in
theorem is_ok (w : World) : Calls Tryz.prog 49 #[.nilIface, .int .i64 0] w fun e w' => e = .returned (.bool true) ∧ w' = w := by
  go_enter Tryz.func49, Tryz.ntmps49
  go_wp2
  go_ret
  exact ⟨rfl, rfl⟩

set_option maxHeartbeats 1000000 in
theorem is_err (A : Nat → Addr) (i : Nat) (w : World) (hS : Sents.Holds w 260 gl 11 A) (hi : i < 11) : Calls Tryz.prog 49 #[ev A i, .int .i64 ((i : Int) + 1)] w fun e w' => e = .returned (.bool true) ∧ Below w.heap.size w w' := by
  have hiI : (i : Int) < 11 := by omega
  have hne : ¬ ((i : Int) + 1 = 0) := by omega
  have HE := hide (errors_any A w hS)
  have hcell := errCell A w i hi
  have heq := fun w => eql_same A i w
  clear hS
  go_enter Tryz.func49, Tryz.ntmps49
  go_wp2_with fail
  refine HE.out.mono ?_
  rintro e w' ⟨rfl, rfl⟩
  go_wp2_with fail
  go_ret
  exact ⟨rfl, (Below.refl _ _).alloc (Nat.le_refl _) _⟩

set_option maxRecDepth 100000 in
set_option maxHeartbeats 1000000 in
theorem pStatus_core (gp gx gy : Nat) (id : List UInt8) (x y n : Int) (ee : Value) (w : World)
    (p0 : w.cell? ⟨gp, 0, none⟩ = some (.pointer (some ⟨gx, 0, none⟩))) (p1 : w.cell? ⟨gp, 1, none⟩ = some (.pointer (some ⟨gy, 0, none⟩)))
    (h1 : Calls Tryz.prog 34 #[.pointer (some ⟨gx, 0, none⟩), encStr id] w fun e w' => e = .returned (.tuple #[.agg #[.int .i64 x, .int .i64 y], ee]) ∧ Below w.heap.size w w')
    (h2 : ∀ w1, Below w.heap.size w w1 → Calls Tryz.prog 83 #[.pointer (some ⟨gy, 0, none⟩), encStr id] w1 fun e w' => e = .returned (.tuple #[.agg #[.int .i64 x, .int .i64 y], .int .i64 n]) ∧ Below w1.heap.size w1 w')
    (h3 : ∀ w1, Below w.heap.size w w1 → Calls Tryz.prog 49 #[ee, .int .i64 n] w1 fun e w' => e = .returned (.bool true) ∧ Below w1.heap.size w1 w') :
    Calls Tryz.prog 46 #[.pointer (some ⟨gp, 0, none⟩), encStr id] w fun e w' => e = .returned (.bool true) ∧ Below w.heap.size w w' := by
  have hgpl := World.block_lt_of_cell? w _ p0
  have P1 := hide p1
  have H1 := hide h1
  have H2 := hide h2
  have H3 := hide h3
  clear h1 h2 h3 p1
  go_enter Tryz.func46, Tryz.ntmps46
  go_wp2_with fail
  refine H1.out.mono ?_
  rintro e w1 ⟨rfl, hb1⟩
  have p1' : w1.cell? ⟨gp, 1, none⟩ = some (.pointer (some ⟨gy, 0, none⟩)) := (hb1.cell (p := ⟨gp, 1, none⟩) hgpl).trans P1.out
  have hz1 : w.heap.size ≤ w1.heap.size := hb1.size
  have hgl1 := World.block_lt_of_cell? w1 _ p1'
  have HB1 := hide (fun o => hb1.alloc hz1 o)
  clear hb1
  go_wp2_with fail
  refine (H2.out _ (HB1.out _)).mono ?_
  rintro e w2 ⟨rfl, hb2⟩
  have hK5 : Blk w2 w1.heap.size #[.int .i64 x, .int .i64 y] 82 := (Blk.new w1 _ _).below hb2 (by simp)
  have hz2 : w1.heap.size + 1 ≤ w2.heap.size := by have := hb2.size; simpa using this
  have hB2 : Below w.heap.size w w2 := (HB1.out _).trans (hb2.mono (by simp; omega))
  have HK5 := hide hK5
  have HB2 := hide (fun o => hB2.alloc hB2.size o)
  clear hb2 hK5 p1'
  go_wp2_with fail
  refine (H3.out _ (HB2.out _)).mono ?_
  rintro e w3 ⟨rfl, hb3⟩
  have hK5' : Blk w3 w1.heap.size #[.int .i64 x, .int .i64 y] 82 := (HK5.out.alloc _).below hb3 (by simp; omega)
  have hK7 : Blk w3 w2.heap.size #[.int .i64 x, .int .i64 y] 82 := (Blk.new w2 _ _).below hb3 (by simp)
  have a0 : w3.cell? ⟨w1.heap.size, 0, none⟩ = some (.int .i64 x) := hK5'.cell 0
  have a1 : w3.cell? ⟨w1.heap.size, 1, none⟩ = some (.int .i64 y) := hK5'.cell 1
  have b0 : w3.cell? ⟨w2.heap.size, 0, none⟩ = some (.int .i64 x) := hK7.cell 0
  have b1 : w3.cell? ⟨w2.heap.size, 1, none⟩ = some (.int .i64 y) := hK7.cell 1
  have HF : Hid (Below w.heap.size w w3) := (HB2.out _).trans (hb3.mono (by simp; omega))
  clear hb3 hK5' hK7
  go_wp2_with fail
  go_ret
  exact ⟨by simp, HF.out⟩

theorem pStatus_any (A : Nat → Addr) (L : Labs) (gp gx gy who who2 : Nat) (M : Ag) (R : Rf) (id : List UInt8) (w : World) (hS : Sents.Holds w 260 gl 11 A)
    (p0 : w.cell? ⟨gp, 0, none⟩ = some (.pointer (some ⟨gx, 0, none⟩))) (p1 : w.cell? ⟨gp, 1, none⟩ = some (.pointer (some ⟨gy, 0, none⟩))) (hA : AgentAt w L who gx M) (hR : RefAt w L who2 gy R) (hb : M.bs.length ≤ 120) (hbs : R.bs = M.bs) :
    Calls Tryz.prog 46 #[.pointer (some ⟨gp, 0, none⟩), encStr id] w fun e w' => e = .returned (.bool true) ∧ Below w.heap.size w w' := by
  have hrl : R.rs.length ≤ 120 := by
    have := congrArg List.length hbs
    simp [Rf.bs] at this
    omega
  rcases findId_cases M.bs id with ⟨hid, _⟩ | ⟨i, b, hid, hbi, _⟩
  · exact pStatus_core gp gx gy id 0 0 5 (ev A 4) w p0 p1 (status_none A L who gx M id w hS hA hb hid)
      (fun w1 hb1 => refStatus_none L who2 gy R id w1 (hR.keep (Step.of_below (p := fun _ => False) hb1) (fun _ h => h)) hrl (by rw [hbs]; exact hid))
      (fun w1 hb1 => is_err A 4 w1 (hS.below hb1) (by omega))
  · obtain ⟨r, hr⟩ : ∃ r, R.rs[i]? = some r := by
      rw [← hbs] at hbi
      simp only [Rf.bs, List.getElem?_map, Option.map_eq_some_iff] at hbi
      obtain ⟨r, h, _⟩ := hbi
      exact ⟨r, h⟩
    have hrb : r.b = b := by
      have := Rf.get hr
      rw [hbs, hbi] at this
      exact (Option.some.inj this).symm
    exact pStatus_core gp gx gy id b.st b.fl 0 .nilIface w p0 p1 (status_some L who gx M id i b w hA hb hid hbi)
      (fun w1 hb1 => hrb ▸ refStatus_some L who2 gy R id i r w1 (hR.keep (Step.of_below (p := fun _ => False) hb1) (fun _ h => h)) hrl (by rw [hbs]; exact hid) hr)
      (fun w1 _ => (is_ok w1).mono (by rintro e w' ⟨rfl, rfl⟩; exact ⟨rfl, Below.refl _ _⟩))
end Go.Proofs.YtojpjaifhjigfaaGreatDoor
