/- Steps of the proof (several texts in one): Plays, Heard. -/
import Derived.Test.YtojpjaifhjigfaaGreatDoorMAllupto10
import Derived.Test.YtojpjaifhjigfaaGreatDoorMAllupto06
import Derived.Deep.RegionWith
import Derived.Deep.DeepCutAuto

/- play, record: what some events make of an agent. -/
namespace Go.Proofs.YtojpjaifhjigfaaGreatDoor
open Go.RowKit Go.Maps

theorem ack_any (L : Labs) (who g : Nat) (M : Ag) (e : Ev) (b : Bat) (w : World) (hA : AgentAt w L who g M) (he : EvOk M e b) (h120 : M.bs.length ≤ 120) :
    Calls Tryz.prog 137 #[.pointer (some ⟨g, 0, none⟩), e.val] w fun r w' => r = .returned (.tuple #[]) ∧ Turned w L who g { M with bs := M.bs.modify e.pl (fun b => b.ended 1 e.f) } w' := by
  have hpl := (List.getElem?_eq_some_iff.1 he.at').1
  obtain ⟨gt, gk, bq, bm, cn, dv, nv, rv, ov, h⟩ := AgentAt.parts (hA.keep (Step.clipped (p := fun _ => False) L w) (fun _ h => h)) (by omega)
  refine (ack_core (clip L w.heap.size) who g gt gk bq bm cn dv nv rv ov M e b w (fun k hk => clip_none L hk) h he h120).mono ?_
  rintro r w' ⟨rfl, h1, h2⟩
  exact ⟨rfl, _, ⟨bq, bm, cn, _, dv, nv, rv, ov, h1⟩, (Step.clipped L w).trans h2⟩
theorem die_any (L : Labs) (who g : Nat) (M : Ag) (e : Ev) (b : Bat) (w : World) (hA : AgentAt w L who g M) (he : EvOk M e b) (h120 : M.bs.length ≤ 120) (hdl : M.dead.length ≤ 1000) :
    Calls Tryz.prog 139 #[.pointer (some ⟨g, 0, none⟩), e.val] w fun r w' => r = .returned (.tuple #[]) ∧ Turned w L who g { M with bs := M.bs.modify e.pl (fun b => b.ended 3 e.f), dead := M.dead ++ [e.pl] } w' := by
  have hpl := (List.getElem?_eq_some_iff.1 he.at').1
  obtain ⟨gt, gk, bq, bm, cn, dv, nv, rv, ov, h⟩ := AgentAt.parts (hA.keep (Step.clipped (p := fun _ => False) L w) (fun _ h => h)) (by omega)
  refine (die_core (clip L w.heap.size) who g gt gk bq bm cn dv nv rv ov M e b w (fun k hk => clip_none L hk) h he h120 hdl).mono ?_
  rintro r w' ⟨rfl, L', h1, h2⟩
  exact ⟨rfl, L', h1, (Step.clipped L w).trans h2⟩
theorem failed_any (L : Labs) (who g : Nat) (M : Ag) (e : Ev) (b : Bat) (w : World) (hA : AgentAt w L who g M) (he : EvOk M e b) :
    Calls Tryz.prog 138 #[.pointer (some ⟨g, 0, none⟩), e.val] w fun r w' => r = .returned (.tuple #[]) ∧ Turned w L who g { M with bs := M.bs.modify e.pl (fun b => b.ended 2 e.f) } w' := by
  have hpl := (List.getElem?_eq_some_iff.1 he.at').1
  obtain ⟨gt, gk, bq, bm, cn, dv, nv, rv, ov, h⟩ := hA.parts (by omega)
  refine (fail_any L who g gt gk M.bs.length e b M.bs w (h.blk.1.cell 0) h.tk he.at' hpl he.f0 he.f1 he.f).mono ?_
  rintro r w' ⟨rfl, h1, h2⟩
  obtain ⟨a1, a2, a3, a4, a5, a6, a7⟩ := h.taken h2
  have em : M.bs.modify e.pl (fun b => b.ended 2 e.f) = M.bs.set e.pl { b with fl := b.fl + e.f } := by
    rw [modify_set _ _ _ b he.at']
    rfl
  refine ⟨rfl, L, ⟨bq, bm, cn, _, dv, nv, rv, ov, a1, ?_, ?_, a3, a4, a5, a6, a7⟩, h2.mono (fun l h => ⟨_, h⟩)⟩
  · show RowAt w' L _ _ _ _ (M.bs.modify e.pl (fun b => b.ended 2 e.f)).length ((M.bs.modify e.pl (fun b => b.ended 2 e.f)).flatMap Bat.cells)
    rw [List.length_modify, em]
    exact h1
  · obtain ⟨D, q1, q2, q3, q4, q5⟩ := a2
    refine ⟨D, q1, by simpa using q2, q3, fun d t hl hn => q4 d t hl (by rw [pend_failed] at hn; exact hn), fun d t hl => ?_⟩
    rw [pend_failed]
    exact q5 d t hl

set_option maxRecDepth 100000 in
set_option maxHeartbeats 1000000 in
theorem play_1 (L : Labs) (who g : Nat) (M : Ag) (eb : Bat) (p f : Nat) (b : Bat) (w : World) (hA : AgentAt w L who g M) (he : EvOk M ⟨1, eb, p, f⟩ b) (h120 : M.bs.length ≤ 120) :
    Calls Tryz.prog 109 #[.pointer (some ⟨g, 0, none⟩), .agg #[.int .i64 1, .int .i64 eb.dst, encStr eb.ten, encStr eb.id, encStr eb.body, .int .i64 p, .int .i64 f]] w fun r w' => r = .returned (.tuple #[]) ∧ Turned w L who g { M with bs := M.bs.modify p (fun b => b.ended 1 f) } w' := by
  have HA : Hid (∀ w1 : World, Below w.heap.size w w1 → Calls Tryz.prog 137 #[.pointer (some ⟨g, 0, none⟩), .agg #[.int .i64 1, .int .i64 eb.dst, encStr eb.ten, encStr eb.id, encStr eb.body, .int .i64 p, .int .i64 f]] w1 fun r w' => r = .returned (.tuple #[]) ∧ Turned w L who g { M with bs := M.bs.modify p (fun b => b.ended 1 f) } w') := fun w1 hb1 => by
    refine (ack_any L who g M ⟨1, eb, p, f⟩ b w1 (hA.keep (Step.of_below (p := fun _ => False) hb1) (fun _ h => h)) he h120).mono ?_
    rintro e w' ⟨rfl, L', h1, h2⟩
    exact ⟨rfl, L', h1, (Step.of_below hb1).trans h2⟩
  clear hA he
  go_enter Tryz.func109, Tryz.ntmps109
  go_wp2_with fail
  have hB2 := fun o1 o2 => ((Below.refl w.heap.size w).alloc (Nat.le_refl _) o1).alloc (show w.heap.size ≤ _ by simp) o2
  go_region_with (first | (go_at_call 137; refine (HA.out _ (by first | exact hB2 _ _ | exact (hB2 _ _).drew)).mono ?_; rintro e w2 ⟨rfl, hT⟩) | fail)
  all_goals
    go_wp2_with fail
    first | go_end0 | refine bodyPost_ret (results_none rfl _ _ _) rfl ?_
    exact ⟨rfl, hT⟩

set_option maxRecDepth 100000 in
set_option maxHeartbeats 1000000 in
theorem play_2 (L : Labs) (who g : Nat) (M : Ag) (eb : Bat) (p f : Nat) (b : Bat) (w : World) (hA : AgentAt w L who g M) (he : EvOk M ⟨2, eb, p, f⟩ b) :
    Calls Tryz.prog 109 #[.pointer (some ⟨g, 0, none⟩), .agg #[.int .i64 2, .int .i64 eb.dst, encStr eb.ten, encStr eb.id, encStr eb.body, .int .i64 p, .int .i64 f]] w fun r w' => r = .returned (.tuple #[]) ∧ Turned w L who g { M with bs := M.bs.modify p (fun b => b.ended 2 f) } w' := by
  have HA : Hid (∀ w1 : World, Below w.heap.size w w1 → Calls Tryz.prog 138 #[.pointer (some ⟨g, 0, none⟩), .agg #[.int .i64 2, .int .i64 eb.dst, encStr eb.ten, encStr eb.id, encStr eb.body, .int .i64 p, .int .i64 f]] w1 fun r w' => r = .returned (.tuple #[]) ∧ Turned w L who g { M with bs := M.bs.modify p (fun b => b.ended 2 f) } w') := fun w1 hb1 => by
    refine (failed_any L who g M ⟨2, eb, p, f⟩ b w1 (hA.keep (Step.of_below (p := fun _ => False) hb1) (fun _ h => h)) he).mono ?_
    rintro e w' ⟨rfl, L', h1, h2⟩
    exact ⟨rfl, L', h1, (Step.of_below hb1).trans h2⟩
  clear hA he
  go_enter Tryz.func109, Tryz.ntmps109
  go_wp2_with fail
  have hB2 := fun o1 o2 => ((Below.refl w.heap.size w).alloc (Nat.le_refl _) o1).alloc (show w.heap.size ≤ _ by simp) o2
  go_region_with (first | (go_at_call 138; refine (HA.out _ (by first | exact hB2 _ _ | exact (hB2 _ _).drew)).mono ?_; rintro e w2 ⟨rfl, hT⟩) | fail)
  all_goals
    go_wp2_with fail
    first | go_end0 | refine bodyPost_ret (results_none rfl _ _ _) rfl ?_
    exact ⟨rfl, hT⟩

set_option maxRecDepth 100000 in
set_option maxHeartbeats 1000000 in
theorem play_3 (L : Labs) (who g : Nat) (M : Ag) (eb : Bat) (p f : Nat) (b : Bat) (w : World) (hA : AgentAt w L who g M) (he : EvOk M ⟨3, eb, p, f⟩ b) (h120 : M.bs.length ≤ 120) (hdl : M.dead.length ≤ 1000) :
    Calls Tryz.prog 109 #[.pointer (some ⟨g, 0, none⟩), .agg #[.int .i64 3, .int .i64 eb.dst, encStr eb.ten, encStr eb.id, encStr eb.body, .int .i64 p, .int .i64 f]] w fun r w' => r = .returned (.tuple #[]) ∧ Turned w L who g { M with bs := M.bs.modify p (fun b => b.ended 3 f), dead := M.dead ++ [p] } w' := by
  have HA : Hid (∀ w1 : World, Below w.heap.size w w1 → Calls Tryz.prog 139 #[.pointer (some ⟨g, 0, none⟩), .agg #[.int .i64 3, .int .i64 eb.dst, encStr eb.ten, encStr eb.id, encStr eb.body, .int .i64 p, .int .i64 f]] w1 fun r w' => r = .returned (.tuple #[]) ∧ Turned w L who g { M with bs := M.bs.modify p (fun b => b.ended 3 f), dead := M.dead ++ [p] } w') := fun w1 hb1 => by
    refine (die_any L who g M ⟨3, eb, p, f⟩ b w1 (hA.keep (Step.of_below (p := fun _ => False) hb1) (fun _ h => h)) he h120 hdl).mono ?_
    rintro e w' ⟨rfl, L', h1, h2⟩
    exact ⟨rfl, L', h1, (Step.of_below hb1).trans h2⟩
  clear hA he
  go_enter Tryz.func109, Tryz.ntmps109
  go_wp2_with fail
  have hB2 := fun o1 o2 => ((Below.refl w.heap.size w).alloc (Nat.le_refl _) o1).alloc (show w.heap.size ≤ _ by simp) o2
  go_region_with (first | (go_at_call 139; refine (HA.out _ (by first | exact hB2 _ _ | exact (hB2 _ _).drew)).mono ?_; rintro e w2 ⟨rfl, hT⟩) | fail)
  all_goals
    go_wp2_with fail
    first | go_end0 | refine bodyPost_ret (results_none rfl _ _ _) rfl ?_
    exact ⟨rfl, hT⟩

/-- An event that can happen now. -/
def PlayOk (M : Ag) (e : Ev) : Prop := (e.kind = 0 ∧ e.pl = 0 ∧ e.f = 0 ∧ M.bs.length < 120 ∧ (0 ≤ e.b.dst ∧ e.b.dst < 4) ∧ e.b.ten.length ≤ 16 ∧ e.b.id.length ≤ 16 ∧ e.b.body.length ≤ 63) ∨ ((e.kind = 1 ∨ e.kind = 2 ∨ e.kind = 3) ∧ M.bs.length ≤ 120 ∧ M.dead.length ≤ 1000 ∧ ∃ b, EvOk M e b)
def PlaysOk : Ag → List Ev → Prop
  | _, [] => True
  | M, e :: es => PlayOk M e ∧ PlaysOk (M.played e) es

theorem play_any (L : Labs) (who g : Nat) (M : Ag) (e : Ev) (w : World) (hA : AgentAt w L who g M) (he : PlayOk M e) : Calls Tryz.prog 109 #[.pointer (some ⟨g, 0, none⟩), e.val] w fun r w' => r = .returned (.tuple #[]) ∧ Turned w L who g (M.played e) w' := by
  obtain ⟨k, eb, p, f⟩ := e
  rcases he with ⟨h0, hp, hf, h1, h2, h3, h4, h5⟩ | ⟨hk, h120, hdl, b, hb⟩
  · simp only at *
    subst h0 hp hf
    exact play_take L who g M eb w hA h1 h2 h3 h4 h5
  · simp only at hk
    rcases hk with rfl | rfl | rfl
    · exact play_1 L who g M eb p f b w hA hb h120
    · exact play_2 L who g M eb p f b w hA hb
    · exact play_3 L who g M eb p f b w hA hb h120 hdl

theorem plays_at : ∀ (es : List Ev) (M : Ag) (k : Nat) (e : Ev), PlaysOk M es → es[k]? = some e → PlayOk ((es.take k).foldl Ag.played M) e
  | [], M, k, e, _, he => by simp at he
  | a :: es, M, 0, e, h, he => by simp at he; subst he; exact h.1
  | a :: es, M, k + 1, e, h, he => by simp at he; exact plays_at es _ k e h.2 he

theorem played_log (M : Ag) (e : Ev) : (M.played e).log = M.log := by unfold Ag.played; split <;> rfl
theorem plays_log : ∀ (es : List Ev) (M : Ag), (es.foldl Ag.played M).log = M.log
  | [], _ => rfl
  | e :: es, M => (plays_log es (M.played e)).trans (played_log M e)

set_option maxRecDepth 100000 in
set_option maxHeartbeats 2000000 in
theorem record_any (L : Labs) (l : Lab) (who g : Nat) (v : Value) (M : Ag) (es : List Ev) (w : World) (hA : AgentAt w L who g M) (hl : ¬ ofP who l) (hE : RowAt w L l 151 7 v es.length (es.flatMap Ev.cells)) (hok : PlaysOk M es) (htell : ∀ e ∈ es, e.Tell) (hlen : es.length ≤ 240) (hlg : M.log.length ≤ 900000000000000) :
    Calls Tryz.prog 68 #[.pointer (some ⟨g, 0, none⟩), v] w fun r w' => r = .returned (.tuple #[]) ∧ Turned w L who g (M.recorded es) w' := by
  have hbl : (es.flatMap Ev.bytes).length ≤ 60000 := by
    have : ∀ l : List Ev, (∀ e ∈ l, e.Tell) → (l.flatMap Ev.bytes).length ≤ 100 * l.length := by
      intro l
      induction l with
      | nil => simp
      | cons a l ih =>
        intro h
        have h1 := (h a (by simp)).le
        have h2 := ih (fun e he => h e (by simp [he]))
        simp only [List.flatMap_cons, List.length_append, List.length_cons]
        omega
    have := this es htell
    omega
  have hrb : (recB 43 es).length ≤ 60003 := by
    unfold recB
    split
    · simp
    · rw [List.length_append]; show 3 + _ ≤ _; omega
  have hcat := fun w => run_concat M.log (recB 43 es) w (by omega)
  obtain ⟨va, vk, rfl, _⟩ := hE.shape
  have HA := hide hA
  have HE := hide hE
  have Hok := hide hok
  have HWr := hide (fun w1 h1 => written_any 43 (.slice va es.length vk) es w1 h1 htell hbl)
  generalize hR : M.recorded es = MR
  have HR := hide hR
  generalize hn : es.length = n at *
  have Hn := hide hn
  clear hA hE hok hn hbl hrb htell hR
  go_enter Tryz.func68, Tryz.ntmps68
  go_wp2_with fail
  go_loopw [5, 8] (fun _ i wr => ∃ (k : Nat) (L1 : Labs), k ≤ n ∧ i = .int .i64 k ∧ AgentAt wr L1 who g ((es.take k).foldl Ag.played M) ∧ Step (ofP who) L w L1 wr) (fun _ i _ => n - (intOf i).toNat)
  case atStart => exact ⟨0, L, Nat.zero_le _, rfl, HA.out, Step.refl _ _ _⟩
  case round =>
    obtain ⟨k, L1, hk, rfl, hA1, hS1⟩ := hrel
    have HA1 := hide hA1
    have HS1 := hide hS1
    have HE1 := hide (HE.out.keep hS1 hl)
    clear hA1 hS1
    by_cases hlt : k < n
    · have hltI : (k : Int) < (n : Int) := by omega
      obtain ⟨e, he⟩ : ∃ e, es[k]? = some e := ⟨_, List.getElem?_eq_getElem (by rw [Hn.out]; exact hlt)⟩
      obtain ⟨gv, rfl, hgv, _, _, _⟩ := HE1.out.head (by omega)
      have HRg := hide (ev_range HE1.out.1 he)
      have HPl : Hid (∀ o, Calls Tryz.prog 109 #[.pointer (some ⟨g, 0, none⟩), .agg #[.int .i64 e.kind, .int .i64 e.b.dst, encStr e.b.ten, encStr e.b.id, encStr e.b.body, .int .i64 e.pl, .int .i64 e.f]] (wr.alloc o) fun r w' => r = .returned (.tuple #[]) ∧ Turned w L who g ((es.take (k + 1)).foldl Ag.played M) w') := fun o => by
        refine (play_any L1 who g _ e (wr.alloc o) (HA1.out.keep (Step.alloc (p := fun _ => False) L1 wr o) (fun _ h => h)) (plays_at es M k e Hok.out he)).mono ?_
        rintro r w' ⟨rfl, L2, h1, h2⟩
        refine ⟨rfl, L2, ?_, HS1.out.trans ((Step.alloc L1 wr o).trans h2)⟩
        have h3 : k < es.length := (List.getElem?_eq_some_iff.1 he).1
        have h4 : es[k] = e := (List.getElem?_eq_some_iff.1 he).2
        rw [List.take_succ_eq_append_getElem h3, List.foldl_append, h4]
        exact h1
      clear he
      go_wp2_with (first
        | (refine wpList_load_mid rfl 151 _ rfl gv (k * 7) rfl [.int .i64 e.kind, .int .i64 e.b.dst, encStr e.b.ten, encStr e.b.id, encStr e.b.body, .int .i64 e.pl, .int .i64 e.f] _ HRg.out Tryz.underlying151 rfl infoEv ?_)
        | fail)
      refine (HPl.out _).mono ?_
      rintro r w2 ⟨rfl, L2, hA2, hS2⟩
      have HA2 := hide hA2
      have HS2 := hide hS2
      clear hA2 hS2
      go_wp2_with fail
      go_roundw
      case rel => exact ⟨k + 1, L2, by omega, by go_num, HA2.out, HS2.out⟩
      case measure => simp [intOf]; omega
    · have htk : es.take k = es := List.take_of_length_le (by rw [Hn.out]; omega)
      rw [htk] at HA1
      have hc3 : wr.cell? ⟨g, 3, none⟩ = some (encStr M.log) := by have := agent_log HA1.out; rw [plays_log] at this; exact this
      have hgl : g < wr.heap.size := World.block_lt_of_cell? wr _ hc3
      clear htk
      go_wp2_with fail
      go_region_with ((go_at_call 110; refine (HWr.out _ (by exact HE1.out.1)).mono ?_; rintro r w3 ⟨rfl, hb3'⟩; have hb3 : Below wr.heap.size wr w3 := ((Below.refl wr.heap.size wr).drew).trans hb3'; have hA3 := HA1.out.keep (Step.of_below (p := fun _ => False) (L := L1) hb3) (fun _ h => h); have HB3 := hide hb3; have f3 : w3.frozen? ⟨g, 3, none⟩ = false := agent_frozen hA3 3; have hc3' : w3.cell? ⟨g, 3, none⟩ = some (encStr M.log) := (hb3.cell (p := ⟨g, 3, none⟩) hgl).trans hc3; have HA3 := hide hA3; clear hA3 hb3 hb3'))
      all_goals
        go_wp2_with fail
        first | go_end0 | refine bodyPost_ret (results_none rfl _ _ _) rfl ?_
        obtain ⟨L4, hA4, hS4⟩ := logged_step HA3.out (M.log ++ recB 43 es)
        refine ⟨rfl, L4, ?_, (HS1.out.trans (Step.of_below HB3.out)).trans hS4⟩
        rw [← HR.out]
        exact hA4
end Go.Proofs.YtojpjaifhjigfaaGreatDoor

/- A destination: is it busy, is it open; what a result makes of its breaker. -/
namespace Go.Proofs.YtojpjaifhjigfaaGreatDoor
open Go.RowKit Go.Maps

set_option maxHeartbeats 400000 in
theorem isBusy_any (go b : Nat) (way : Int) (w : World) (h : w.cell? ⟨go, b + 8, none⟩ = some (.int .i64 way)) : Calls Tryz.prog 111 #[.pointer (some ⟨go, b, none⟩)] w fun e w' => e = .returned (.bool (way != -1)) ∧ w' = w := by
  go_enter Tryz.func111, Tryz.ntmps111
  go_wp2_with fail
  go_ret
  exact ⟨rfl, rfl⟩
set_option maxHeartbeats 400000 in
theorem isOpen_any (go b : Nat) (tr : Bool) (unt now : Int) (w : World) (h3 : w.cell? ⟨go, b + 3, none⟩ = some (.bool tr)) (h4 : w.cell? ⟨go, b + 4, none⟩ = some (.int .i64 unt)) : Calls Tryz.prog 112 #[.pointer (some ⟨go, b, none⟩), .int .i64 now] w fun e w' => e = .returned (.bool (tr && decide (now < unt))) ∧ ∃ n, w' = w.drewN n := by
  cases tr
  all_goals
    go_enter Tryz.func112, Tryz.ntmps112
    go_wp2_with fail
    try go_region
    all_goals
      go_wp2_with fail
      go_ret
      exact ⟨by simp, by first | exact ⟨0, rfl⟩ | exact ⟨1, rfl⟩⟩
set_option maxHeartbeats 400000 in
theorem isUnderWay_any (go b : Nat) (way sends try' : Int) (w : World) (h : w.cell? ⟨go, b + 8, none⟩ = some (.int .i64 way)) (h7 : w.cell? ⟨go, b + 7, none⟩ = some (.int .i64 sends)) : Calls Tryz.prog 72 #[.pointer (some ⟨go, b, none⟩), .int .i64 try'] w fun e w' => e = .returned (.bool ((way != -1) && (sends == try'))) ∧ Below w.heap.size w w' := by
  have H := fun (w1 : World) h1 => hide (isBusy_any go b way w1 h1)
  have HH := hide h
  clear h
  cases hw : (way != -1)
  all_goals
    rw [hw] at H
    go_enter Tryz.func72, Tryz.ntmps72
    go_wp2_with fail
    refine (H _ (by exact HH.out)).out.mono ?_
    rintro e w2 ⟨rfl, rfl⟩
    go_wp2_with fail
    go_ret
    exact ⟨by simp, by first | exact Below.refl _ _ | exact (Below.refl _ _).drew⟩

set_option maxHeartbeats 400000 in
theorem finish_any (L : Labs) (who th go k d : Nat) (os : List Out) (o : Out) (w : World) (h : OutF w L who th go k os d o) : Calls Tryz.prog 115 #[.pointer (some ⟨go, d * 10, none⟩)] w fun e w' => e = .returned (.int .i64 o.way) ∧ OutF w' L who th go k os d { o with way := -1 } ∧ Step (olP who) L w L w' := by
  have HU := hide (h.put 8 (.int .i64 (-1)) { o with way := -1 } (by omega) rfl (fun _ _ => rfl))
  obtain ⟨g, ca, ck, hC⟩ := h.cells
  have c8 := hC.c8
  have f8 := hC.fz (d * 10 + 8)
  clear hC h
  go_enter Tryz.func115, Tryz.ntmps115
  go_wp2_with fail
  go_ret
  exact ⟨rfl, HU.out⟩
set_option maxHeartbeats 400000 in
theorem begin_any (L : Labs) (who th go k d : Nat) (os : List Out) (o : Out) (p : Nat) (now : Int) (w : World) (h : OutF w L who th go k os d o) (h0 : 0 ≤ o.sends) (h1 : o.sends ≤ 1000000000000000000) : Calls Tryz.prog 114 #[.pointer (some ⟨go, d * 10, none⟩), .int .i64 p, .int .i64 now] w fun e w' => e = .returned (.tuple #[]) ∧ OutF w' L who th go k os d { o with sends := o.sends + 1, way := p, began := now } ∧ Step (olP who) L w L w' := by
  have HU : Hid (OutF (((w.setCell ⟨go, d * 10 + 7, none⟩ (.int .i64 (o.sends + 1))).setCell ⟨go, d * 10 + 8, none⟩ (.int .i64 p)).setCell ⟨go, d * 10 + 9, none⟩ (.int .i64 now)) L who th go k os d { o with sends := o.sends + 1, way := p, began := now } ∧ Step (olP who) L w L (((w.setCell ⟨go, d * 10 + 7, none⟩ (.int .i64 (o.sends + 1))).setCell ⟨go, d * 10 + 8, none⟩ (.int .i64 p)).setCell ⟨go, d * 10 + 9, none⟩ (.int .i64 now))) := by
    obtain ⟨a1, s1⟩ := h.put 7 (.int .i64 (o.sends + 1)) { o with sends := o.sends + 1 } (by omega) rfl (fun _ _ => rfl)
    obtain ⟨a2, s2⟩ := a1.put 8 (.int .i64 p) { o with sends := o.sends + 1, way := p } (by omega) rfl (fun _ _ => rfl)
    obtain ⟨a3, s3⟩ := a2.put 9 (.int .i64 now) { o with sends := o.sends + 1, way := p, began := now } (by omega) rfl (fun _ _ => rfl)
    exact ⟨a3, (s1.trans s2).trans s3⟩
  obtain ⟨g, ca, ck, hC⟩ := h.cells
  have c7 := hC.c7
  have c8 := hC.c8
  have c9 := hC.c9
  have fz := hC.fz
  clear hC h
  go_enter Tryz.func114, Tryz.ntmps114
  go_wp2_with fail
  try go_region
  all_goals
    go_wp2_with fail
    first | go_end0 | refine bodyPost_ret (results_none rfl _ _ _) rfl ?_
    exact ⟨rfl, HU.out⟩
set_option maxHeartbeats 400000 in
theorem forget_any (L : Labs) (who th go k d : Nat) (os : List Out) (o : Out) (w : World) (h : OutF w L who th go k os d o) : Calls Tryz.prog 161 #[.pointer (some ⟨go, d * 10, none⟩)] w fun e w' => e = .returned (.tuple #[]) ∧ OutF w' L who th go k os d { o with res := 0, fl := 0 } ∧ Step (olP who) L w L w' := by
  have HU : Hid (OutF ((w.setCell ⟨go, d * 10 + 1, none⟩ (.int .i64 0)).setCell ⟨go, d * 10 + 2, none⟩ (.int .i64 0)) L who th go k os d { o with res := 0, fl := 0 } ∧ Step (olP who) L w L ((w.setCell ⟨go, d * 10 + 1, none⟩ (.int .i64 0)).setCell ⟨go, d * 10 + 2, none⟩ (.int .i64 0))) := by
    obtain ⟨a1, s1⟩ := h.put 1 (.int .i64 0) { o with res := 0 } (by omega) rfl (fun _ _ => rfl)
    obtain ⟨a2, s2⟩ := a1.put 2 (.int .i64 0) { o with res := 0, fl := 0 } (by omega) rfl (fun _ _ => rfl)
    exact ⟨a2, s1.trans s2⟩
  obtain ⟨g, ca, ck, hC⟩ := h.cells
  have c1 := hC.c1
  have c2 := hC.c2
  have fz := hC.fz
  clear hC h
  go_enter Tryz.func161, Tryz.ntmps161
  go_wp2_with fail
  try go_region
  all_goals
    go_wp2_with fail
    first | go_end0 | refine bodyPost_ret (results_none rfl _ _ _) rfl ?_
    exact ⟨rfl, HU.out⟩
set_option maxHeartbeats 400000 in
theorem trip_any (L : Labs) (who th go k d : Nat) (os : List Out) (o : Out) (u : Int) (w : World) (h : OutF w L who th go k os d o) : Calls Tryz.prog 145 #[.pointer (some ⟨go, d * 10, none⟩), .int .i64 u] w fun e w' => e = .returned (.tuple #[]) ∧ OutF w' L who th go k os d { o with trip := true, unt := u, res := 0, fl := 0 } ∧ Step (olP who) L w L w' := by
  have HU : Hid (Calls Tryz.prog 161 #[.pointer (some ⟨go, d * 10, none⟩)] ((w.setCell ⟨go, d * 10 + 3, none⟩ (.bool true)).setCell ⟨go, d * 10 + 4, none⟩ (.int .i64 u)) fun e w' => e = .returned (.tuple #[]) ∧ OutF w' L who th go k os d { o with trip := true, unt := u, res := 0, fl := 0 } ∧ Step (olP who) L w L w') := by
    obtain ⟨a1, s1⟩ := h.put 3 (.bool true) { o with trip := true } (by omega) rfl (fun _ _ => rfl)
    obtain ⟨a2, s2⟩ := a1.put 4 (.int .i64 u) { o with trip := true, unt := u } (by omega) rfl (fun _ _ => rfl)
    refine (forget_any L who th go k d os _ _ a2).mono ?_
    rintro e w' ⟨rfl, a3, s3⟩
    exact ⟨rfl, a3, (s1.trans s2).trans s3⟩
  obtain ⟨g, ca, ck, hC⟩ := h.cells
  have c3 := hC.c3
  have c4 := hC.c4
  have fz := hC.fz
  clear hC h
  go_enter Tryz.func145, Tryz.ntmps145
  go_wp2_with fail
  refine HU.out.mono ?_
  rintro e w' ⟨rfl, h1⟩
  have H1 := hide h1
  clear h1
  go_wp2_with fail
  first | go_end0 | refine bodyPost_ret (results_none rfl _ _ _) rfl ?_
  exact ⟨rfl, H1.out⟩
set_option maxHeartbeats 400000 in
theorem tooMany_any (g th q : Nat) (w : World) (h : w.cell? ⟨g, 0, none⟩ = some (.float .f64 th)) : Calls Tryz.prog 152 #[.float .f64 q, .pointer (some ⟨g, 0, none⟩)] w fun e w' => e = .returned (.bool ((FloatKind.f64.format.order q th == some .gt) || (FloatKind.f64.format.order q th == some .eq))) ∧ w' = w := by
  go_enter Tryz.func152, Tryz.ntmps152
  go_wp2_with fail
  go_ret
  exact ⟨rfl, rfl⟩

theorem OutF.drew {w : World} {L : Labs} {who th go k d : Nat} {os : List Out} {o : Out} (h : OutF w L who th go k os d o) : OutF w.drew L who th go k os d o := h.keep (Step.drew (p := fun _ => False) L w) (fun h => h) (fun _ h => h) (fun _ h => h)
theorem OutF.drewN {w : World} {L : Labs} {who th go k d : Nat} {os : List Out} {o : Out} (h : OutF w L who th go k os d o) (n : Nat) : OutF (w.drewN n) L who th go k os d o := h.keep (Step.drewN (p := fun _ => False) L w n) (fun h => h) (fun _ h => h) (fun _ h => h)
theorem OutF.alloc {w : World} {L : Labs} {who th go k d : Nat} {os : List Out} {o : Out} (h : OutF w L who th go k os d o) (x : Obj) : OutF (w.alloc x) L who th go k os d o := h.keep (Step.alloc (p := fun _ => False) L w x) (fun h => h) (fun _ h => h) (fun _ h => h)

theorem infoCfgSz : (Tryz.prog.info? 25).map (·.size) = some 11 := by kernel_rfl
/-- The rest of count: behind the counting. -/
def Counted (w : World) (L : Labs) (who th go k : Nat) (os : List Out) (d : Nat) (o : Out) (w' : World) : Prop := OutF w' L who th go k os d o ∧ Step (olP who) L w L w'

set_option maxRecDepth 100000 in
set_option maxHeartbeats 2000000 in
theorem count_any (L : Labs) (who go k d : Nat) (os : List Out) (o : Out) (good : Bool) (c : Cfg) (m : Option Nat) (now : Int) (w : World) (h : OutF w L who c.th go k os d o) (h0 : 0 ≤ o.res) (h1 : o.res ≤ 63) (h2 : 0 ≤ o.fl) (h3 : o.fl ≤ o.res) (hn0 : 0 ≤ now) (hn1 : now ≤ 1000000000000000000) (hp0 : 0 ≤ c.op) (hp1 : c.op ≤ 60000) :
    Calls Tryz.prog 144 #[.pointer (some ⟨go, d * 10, none⟩), .bool good, c.val m, .int .i64 now] w fun e w' => e = .returned (.tuple #[]) ∧ Counted w L who c.th go k os d (o.counted c now good) w' := by
  obtain ⟨r, f, hr, hf, hCo⟩ : ∃ r f : Int, r = o.res + 1 ∧ f = (if good then o.fl else o.fl + 1) ∧ o.counted c now good = (if decide (c.le ≤ r) && tooMany c.th f r then { o with trip := true, unt := now + c.op, res := 0, fl := 0 } else if r = c.wi then { o with res := 0, fl := 0 } else { o with res := r, fl := f }) := ⟨_, _, rfl, rfl, rfl⟩
  generalize o.counted c now good = oR at hCo ⊢
  have HOR := hide hCo
  clear hCo
  have hfb : 0 ≤ f ∧ f ≤ 64 := by cases good <;> simp at hf <;> omega
  have hquo : ∀ (w : World) (t : TypeId), (binOp .quo t (.float .f64 (floatOfInt .f64 f)) (.float .f64 (floatOfInt .f64 r))).run Tryz.prog w = .ok (.float .f64 (quot f r)) w := fun w t => run_float_arith w .quo t .f64 _ _ _ (quot_some hfb.1 hfb.2 (by omega) (by omega))
  have HT : ∀ (g : Nat) (w1 : World), w1.cell? ⟨g, 0, none⟩ = some (.float .f64 c.th) → Hid (Calls Tryz.prog 152 #[.float .f64 (quot f r), .pointer (some ⟨g, 0, none⟩)] w1 fun e w' => e = .returned (.bool (tooMany c.th f r)) ∧ w' = w1) := fun (g : Nat) (w1 : World) hc => by rw [tooMany]; exact hide (tooMany_any g c.th (quot f r) w1 hc)
  have HTrip := fun o' w1 h' => hide (trip_any L who c.th go k d os o' (now + c.op) w1 h')
  have HForg := fun o' w1 h' => hide (forget_any L who c.th go k d os o' w1 h')
  obtain ⟨g, ca, ck, hC⟩ := h.cells
  have c1 := hC.c1
  have c2 := hC.c2
  have fz := hC.fz
  have hlt := hC.lt
  have HO := hide h
  clear hC h hfb
  have HF : Hid (∀ W, W = (if good then (w.setCell ⟨go, d * 10 + 1, none⟩ (.int .i64 r)) else ((w.setCell ⟨go, d * 10 + 1, none⟩ (.int .i64 r)).setCell ⟨go, d * 10 + 2, none⟩ (.int .i64 f))).alloc (.cells (c.cells m) 25) → OutF W L who c.th go k os d { o with res := r, fl := f } ∧ Step (olP who) L w L W ∧ Blk W w.heap.size (c.cells m) 25) := by
    rintro W rfl
    obtain ⟨a1, s1⟩ := HO.out.put 1 (.int .i64 r) { o with res := r } (by omega) rfl (fun _ _ => rfl)
    cases good
    · obtain ⟨a2, s2⟩ := a1.put 2 (.int .i64 f) { o with res := r, fl := f } (by omega) rfl (fun _ _ => rfl)
      exact ⟨a2.alloc _, (s1.trans s2).trans (Step.alloc L _ _), Blk.made (by simp) _ _⟩
    · have e : f = o.fl := by simpa using hf
      subst e
      exact ⟨a1.alloc _, s1.trans (Step.alloc L _ _), Blk.made (by simp) _ _⟩
  subst hr
  have HLast := hide hf
  cases good
  all_goals
    simp only [Bool.false_eq_true, if_true, if_false] at hf
    subst hf
    clear HLast
    go_enter Tryz.func144, Tryz.ntmps144
    go_upto_region 4 with fail
    generalize hW : World.alloc _ _ = W
    obtain ⟨hF, hS, hB⟩ := HF.out W (by first | exact hW.symm | (rw [← hW]; rfl))
    clear hW
    obtain ⟨g', ca', ck', hC⟩ := hF.cells
    have c0 := hC.c0
    have cg := hC.cg
    have d1 : W.cell? ⟨go, d * 10 + 1, none⟩ = some (.int .i64 (o.res + 1)) := hC.c1
    have d2 := hC.c2
    have b7 : W.cell? ⟨w.heap.size, 7, none⟩ = some (.int .i64 c.wi) := hB.cell 7
    have b8 : W.cell? ⟨w.heap.size, 8, none⟩ = some (.int .i64 c.le) := hB.cell 8
    have b10 : W.cell? ⟨w.heap.size, 10, none⟩ = some (.int .i64 c.op) := hB.cell 10
    have HFW := hide hF
    have HSW := hide hS
    clear hF hS hB hC c1 c2 fz
    by_cases hle : c.le ≤ o.res + 1
    · have hld : decide (c.le ≤ o.res + 1) = true := by simpa using hle
      cases htm : tooMany c.th _ (o.res + 1)
      · rw [htm] at HT
        have Htm := hide htm
        clear htm
        go_wp2_with fail
        go_quiet ((go_at_call 152; exact Calls.quiet_of_same ((HT g' _ (by exact cg)).out)))
        go_wp2_with fail
        go_quiet (fail)
        by_cases hwi : o.res + 1 = c.wi
        · go_wp2_with fail
          refine (HForg _ _ (by exact HFW.out.drewN _)).out.mono ?_
          rintro e w' ⟨rfl, hx, hs⟩
          have Hx := hide hx
          have Hs := hide hs
          clear hx hs
          go_wp2_with fail
          first | go_end0 | refine bodyPost_ret (results_none rfl _ _ _) rfl ?_
          refine ⟨rfl, ?_, (HSW.out.trans (Step.drewN L W _)).trans Hs.out⟩
          rw [HOR.out, if_neg (by simp [Htm.out]), if_pos hwi]
          exact Hx.out
        · go_wp2_with fail
          first | go_end0 | refine bodyPost_ret (results_none rfl _ _ _) rfl ?_
          refine ⟨rfl, ?_, (HSW.out.trans (Step.drewN L W _)).trans (Step.drewN L _ _)⟩
          rw [HOR.out, if_neg (by simp [Htm.out]), if_neg hwi]
          exact (HFW.out.drewN _).drewN _
      · rw [htm] at HT
        have Htm := hide htm
        clear htm
        go_wp2_with fail
        go_quiet ((go_at_call 152; exact Calls.quiet_of_same ((HT g' _ (by exact cg)).out)))
        go_wp2_with fail
        refine (HTrip _ _ (by exact HFW.out.drewN _)).out.mono ?_
        rintro e w' ⟨rfl, hx, hs⟩
        have Hx := hide hx
        have Hs := hide hs
        clear hx hs
        go_wp2_with fail
        first | go_end0 | refine bodyPost_ret (results_none rfl _ _ _) rfl ?_
        refine ⟨rfl, ?_, (HSW.out.trans (Step.drewN L W _)).trans Hs.out⟩
        rw [HOR.out, if_pos (by simp [hle, Htm.out])]
        exact Hx.out
    · have hld : decide (c.le ≤ o.res + 1) = false := by simpa using hle
      have Hle := hide hle
      go_wp2_with fail
      go_quiet (fail)
      go_wp2_with fail
      go_quiet (fail)
      by_cases hwi : o.res + 1 = c.wi
      · go_wp2_with fail
        refine (HForg _ _ (by exact HFW.out.drewN _)).out.mono ?_
        rintro e w' ⟨rfl, hx, hs⟩
        have Hx := hide hx
        have Hs := hide hs
        clear hx hs
        go_wp2_with fail
        first | go_end0 | refine bodyPost_ret (results_none rfl _ _ _) rfl ?_
        refine ⟨rfl, ?_, (HSW.out.trans (Step.drewN L W _)).trans Hs.out⟩
        rw [HOR.out, if_neg (by rw [decide_eq_false (show ¬ c.le ≤ o.res + 1 by have := Hle.out; omega)]; simp), if_pos hwi]
        exact Hx.out
      · go_wp2_with fail
        first | go_end0 | refine bodyPost_ret (results_none rfl _ _ _) rfl ?_
        refine ⟨rfl, ?_, (HSW.out.trans (Step.drewN L W _)).trans (Step.drewN L _ _)⟩
        rw [HOR.out, if_neg (by rw [decide_eq_false (show ¬ c.le ≤ o.res + 1 by have := Hle.out; omega)]; simp), if_neg hwi]
        exact (HFW.out.drewN _).drewN _

set_option maxRecDepth 100000 in
set_option maxHeartbeats 2000000 in
theorem hear_any (L : Labs) (who go k d : Nat) (os : List Out) (o : Out) (good : Bool) (c : Cfg) (m : Option Nat) (now : Int) (w : World) (h : OutF w L who c.th go k os d o) (h0 : 0 ≤ o.res) (h1 : o.res ≤ 63) (h2 : 0 ≤ o.fl) (h3 : o.fl ≤ o.res) (hn0 : 0 ≤ now) (hn1 : now ≤ 1000000000000000000) (hp0 : 0 ≤ c.op) (hp1 : c.op ≤ 60000) :
    Calls Tryz.prog 116 #[.pointer (some ⟨go, d * 10, none⟩), .bool good, c.val m, .int .i64 now] w fun e w' => e = .returned (.tuple #[]) ∧ Counted w L who c.th go k os d (o.heard c now good) w' := by
  have HC := hide (fun x => count_any L who go k d os o good c m now (w.alloc x) (h.alloc x) h0 h1 h2 h3 hn0 hn1 hp0 hp1)
  have HTrip := hide (fun x => trip_any L who c.th go k d os o (now + c.op) (w.alloc x) (h.alloc x))
  have HPut : Hid (∀ x, Counted w L who c.th go k os d { o with trip := false } ((w.setCell ⟨go, d * 10 + 3, none⟩ (.bool false)).alloc x)) := fun x => by
    obtain ⟨a1, s1⟩ := h.put 3 (.bool false) { o with trip := false } (by omega) rfl (fun _ _ => rfl)
    exact ⟨a1.alloc x, s1.trans (Step.alloc L _ x)⟩
  obtain ⟨oR, hoR⟩ : ∃ oR, oR = o.heard c now good := ⟨_, rfl⟩
  rw [← hoR]
  have HoR := hide hoR
  obtain ⟨g, ca, ck, hC⟩ := h.cells
  have c3 := hC.c3
  have f3 := hC.fz (d * 10 + 3)
  have hlt := hC.lt
  clear hC h hoR
  cases ht : o.trip
  · rw [ht] at c3
    have Ht := hide ht
    clear ht
    go_enter Tryz.func116, Tryz.ntmps116
    go_wp2_with (first
      | (refine wpList_load_mid rfl 25 _ rfl w.heap.size 0 rfl (c.cells m).toList _ ((Blk.new w _ _).range 0 _ rfl) Tryz.underlying25 rfl infoCfgSz ?_)
      | fail)
    refine (HC.out _).mono ?_
    rintro e w' ⟨rfl, hx⟩
    have Hx := hide hx
    clear hx
    go_wp2_with fail
    first | go_end0 | refine bodyPost_ret (results_none rfl _ _ _) rfl ?_
    refine ⟨rfl, ?_, (Step.alloc L w _).trans Hx.out.2⟩
    rw [HoR.out, Out.heard, Ht.out]
    exact Hx.out.1
  · rw [ht] at c3
    have Ht := hide ht
    clear ht
    cases good
    · go_enter Tryz.func116, Tryz.ntmps116
      go_wp2_with fail
      refine (HTrip.out _).mono ?_
      rintro e w' ⟨rfl, hx, hs⟩
      have Hx := hide hx
      have Hs := hide hs
      clear hx hs
      go_wp2_with fail
      first | go_end0 | refine bodyPost_ret (results_none rfl _ _ _) rfl ?_
      refine ⟨rfl, ?_, (Step.alloc L w _).trans Hs.out⟩
      rw [HoR.out, Out.heard, Ht.out]
      exact Hx.out
    · go_enter Tryz.func116, Tryz.ntmps116
      go_wp2_with fail
      first | go_end0 | refine bodyPost_ret (results_none rfl _ _ _) rfl ?_
      refine ⟨rfl, ?_⟩
      rw [HoR.out, Out.heard, Ht.out]
      exact HPut.out _
end Go.Proofs.YtojpjaifhjigfaaGreatDoor
