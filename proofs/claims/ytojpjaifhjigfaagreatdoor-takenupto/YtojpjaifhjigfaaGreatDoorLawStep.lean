/- (*World).step, of the kinds that Taken plays: 1, 2, 5, 6, 7. -/
import Derived.Test.YtojpjaifhjigfaaGreatDoorLawPick
import Derived.Test.YtojpjaifhjigfaaGreatDoorLawAsked
namespace Go.Proofs.YtojpjaifhjigfaaGreatDoor
open Go.RowKit Go.Maps

/-- A step of a script. -/
structure Opn where
  k : Int
  ag : Int
  b : Bat
  d : Int
  ms : Int
  dr : Int
  gd : Bool
  ys : Bool
def Opn.cells (o : Opn) : List Value := [.int .i64 o.k, .int .i64 o.ag, .int .i64 o.b.dst, encStr o.b.ten, encStr o.b.id, encStr o.b.body, .int .i64 o.d, .int .i64 o.ms, .int .i64 o.dr, .bool o.gd, .bool o.ys]
def Opn.val (o : Opn) : Value := .agg o.cells.toArray
theorem Opn.cells_length (o : Opn) : o.cells.length = 11 := rfl
structure Opn.Ok (o : Opn) : Prop where
  a0 : -9223372036854775808 ≤ o.ag
  a1 : o.ag ≤ 9223372036854775807
  m0 : -9223372036854775808 ≤ o.ms
  m1 : o.ms ≤ 9223372036854775807
  tl : o.b.ten.length ≤ maxLen

/-- The law's world behind a step. -/
def Stepped (w : World) (L : Labs) (gw : Nat) (A : Nat → Addr) (cur : Array Value) (np nt nm : Nat) (w' : World) : Prop :=
  ∃ L' cur' pv' tv' mv' np' nt' nm' ps', WAt w' L' gw A cur' pv' tv' mv' np' nt' nm' ps' ∧ np ≤ np' ∧ np' ≤ np + 1 ∧ nt' % 4 = 0 ∧ nt' ≤ nt + 8 ∧ nm' ≤ nm + 2 ∧ (∀ i, i < 22 ∨ i = 26 → cur'[i]? = cur[i]?) ∧ Step someP L w L' w'

theorem WAt.agents {w w' : World} {L L' : Labs} {gw : Nat} {A : Nat → Addr} {cur : Array Value} {pv tv mv : Value} {np nt nm : Nat} {ps : List Value} (h : WAt w L gw A cur pv tv mv np nt nm ps) {i gp gx gy : Nat} {c : Cfg} {m : Option Nat} {sv lg : Value} {M : Ag} {R : Rf}
    (hv : ps[i]? = some (.pointer (some ⟨gp, 0, none⟩))) (hB : BlkAt w L (bl 8 i) gp (prCells gx gy c m sv lg) 102) (hA : AgentAt w' L' (2 * i + 1) gx M) (hR : RefAt w' L' (2 * i + 2) gy R) (hS : Sim M R)
    (s : Step (fun l => ofP (2 * i + 1) l ∨ ofP (2 * i + 2) l) L w L' w') : WAt w' L' gw A cur pv tv mv np nt nm ps := by
  have n0 : ∀ q, ¬ (ofP (2 * i + 1) (some (0, q)) ∨ ofP (2 * i + 2) (some (0, q))) := fun q h => by
    rcases h with h | h
    · exact not_ofP (by omega) q h
    · exact not_ofP (by omega) q h
  have nn : ¬ (ofP (2 * i + 1) none ∨ ofP (2 * i + 2) none) := fun h => by
    rcases h with ⟨q, h⟩ | ⟨q, h⟩ <;> cases h
  refine ⟨h.blk.keep s (n0 _), h.c22, h.c23, h.c24, h.c25, h.prs.keep s (n0 _), fun j v hj => ?_, h.txt.keep s (n0 _) (fun _ _ => n0 _), h.mps.keep s (n0 _) (fun _ _ => n0 _), h.err.keep s nn⟩
  by_cases e : j = i
  · subst e
    rw [hv] at hj
    cases hj
    exact ⟨gp, M, R, rfl, gx, gy, c, m, sv, lg, hB.keep s (n0 _), hA, hR, hS⟩
  · obtain ⟨gp', M', R', e', hP⟩ := h.pr j v hj
    refine ⟨gp', M', R', e', hP.keep s (n0 _) (fun q h => ?_) (fun q h => ?_)⟩
    · rcases h with h | h
      · exact not_ofP (by omega) q h
      · exact not_ofP (by omega) q h
    · rcases h with h | h
      · exact not_ofP (by omega) q h
      · exact not_ofP (by omega) q h

theorem is_any (A : Nat → Addr) (n : Nat) (w : World) (hS : Sents.Holds w 260 gl 11 A) (hn : n ≤ 11) : Calls Tryz.prog 49 #[errV A n, .int .i64 n] w fun e w' => e = .returned (.bool true) ∧ Below w.heap.size w w' := by
  cases n with
  | zero =>
    refine (is_ok w).mono ?_
    rintro e w' ⟨rfl, rfl⟩
    exact ⟨rfl, Below.refl _ _⟩
  | succ k => exact is_err A k w hS (by omega)

theorem refusal_le (M : Ag) (b : Bat) : M.refusal b ≤ 11 := by
  unfold Ag.refusal Ag.misfit
  (repeat' split) <;> omega

theorem pickIs (z : Int) (h0 : -9223372036854775808 ≤ z) (h1 : z ≤ 9223372036854775807) : PickIs z (pickN z 2) := fun w => pick_any z 2 w h0 h1 (by omega)

set_option maxRecDepth 100000 in
set_option maxHeartbeats 4000000 in
theorem step_open (L : Labs) (gw : Nat) (A : Nat → Addr) (o : Opn) (cur : Array Value) (pv tv mv : Value) (np nt nm : Nat) (ps : List Value) (c0 c1 : Cfg) (m0 m1 : Option Nat) (D0 D1 : DataW Unit) (w : World) (h : WAt w L gw A cur pv tv mv np nt nm ps) (hc0 : CfgAt w L cur 0 c0 m0 D0) (hc1 : CfgAt w L cur 1 c1 m1 D1)
    (ho : o.Ok) (hk : o.k = 1) (h4 : nt % 4 = 0) (hnp : np ≤ 8000000) : Calls Tryz.prog 18 #[.pointer (some ⟨gw, 0, none⟩), o.val] w fun e w' => e = .returned (.bool true) ∧ Stepped w L gw A cur np nt nm w' := by
  have HO : Hid (∀ o1, Calls Tryz.prog 16 #[.pointer (some ⟨gw, 0, none⟩), .int .i64 o.ms] (w.alloc o1) fun e w' => e = .returned (.bool true) ∧ Stepped w L gw A cur np nt nm w') := fun o1 => by
    have key : ∀ n c m D, n < 2 → PickIs o.ms n → CfgAt (w.alloc o1) L cur n c m D → Calls Tryz.prog 16 #[.pointer (some ⟨gw, 0, none⟩), .int .i64 o.ms] (w.alloc o1) fun e w' => e = .returned (.bool true) ∧ Stepped w L gw A cur np nt nm w' := fun n c m D hn hpk hc => by
      refine (opened_any L gw A o.ms n hn hpk cur pv tv mv np nt nm ps c m D (w.alloc o1) (h.step (Step.alloc L w o1)) hc hnp).mono ?_
      rintro e w' ⟨rfl, L', cur', pv', np', ps', h1, h2, h3, _, h5, h6⟩
      exact ⟨rfl, L', cur', pv', tv, mv, np', nt, nm, ps', h1, h2, h3, h4, by omega, by omega, fun i hi => h5 i (by omega), (Step.alloc L w o1).trans (h6.mono (fun l h => by rcases h with rfl | rfl <;> simp [someP, bl]))⟩
    have hs := Step.alloc (p := fun _ => False) L w o1
    have hlt := pickN_lt o.ms (n := 2) (by omega)
    have hpk := pickIs o.ms ho.m0 ho.m1
    generalize pickN o.ms 2 = n at *
    match n, hlt with
    | 0, _ => exact key 0 c0 m0 D0 (by omega) hpk (hc0.keep hs (fun h => h) (fun _ _ => rfl) (by omega))
    | 1, _ => exact key 1 c1 m1 D1 (by omega) hpk (hc1.keep hs (fun h => h) (fun _ _ => rfl) (by omega))
  unfold Opn.val Opn.cells
  rw [hk]
  clear h hc0 hc1 ho hk
  go_enter Tryz.func18, Tryz.ntmps18
  go_wp2_with fail
  refine (HO.out _).mono ?_
  rintro e w' ⟨rfl, hT⟩
  have HT := hide hT
  clear hT
  go_wp2_with fail
  go_ret
  exact ⟨rfl, HT.out⟩
end Go.Proofs.YtojpjaifhjigfaaGreatDoor
