/- Steps of the proof (several texts in one): RunGo, RunSub5, RunCrash2, ArgsInts, ArgsSteps. -/
import Derived.Test.YtojpjaifhjigfabGreatDoorMTwo24
import Derived.Test.YtojpjaifhjigfabGreatDoorMTwo25
import Derived.Test.YtojpjaifhjigfabGreatDoorMTwo18
import Derived.ProofKit
import Derived.Deep.Slices
import Derived.OpenShut

/- What goes out at a tick; how long anything may pause. -/
namespace Go.Proofs.YtojpjaifhjigfabGreatDoor
open Go.RowKit Go.Maps

/-- Nothing pauses longer than it may. -/
structure PInv (M : Ag) : Prop where
  fr : ∀ r ∈ M.rt, r.fr ≤ M.now + M.c.ca
  un : ∀ o ∈ M.os, o.unt ≤ M.now + M.c.op
theorem PInv.later {M : Ag} (h : PInv M) {ms : Int} (h0 : 0 ≤ ms) : PInv (M.later ms) :=
  ⟨fun r hr => by have := h.fr r hr; show r.fr ≤ M.now + ms + M.c.ca; omega, fun o ho => by have := h.un o ho; show o.unt ≤ M.now + ms + M.c.op; omega⟩
theorem PInv.logged {M : Ag} (h : PInv M) (l : List UInt8) : PInv { M with log := l } := ⟨h.fr, h.un⟩
theorem heard_unt (o : Out) (c : Cfg) (now : Int) (good : Bool) : (o.heard c now good).unt = o.unt ∨ (o.heard c now good).unt = now + c.op := by
  unfold Out.heard Out.counted
  simp only
  repeat' split
  all_goals first | exact Or.inl rfl | exact Or.inr rfl
theorem PInv.over {M : Ag} {d : Nat} {o : Out} {p : Nat} {b : Bat} {r : Ret} {draw : Int} (h : PInv M) (hs : SetOk M d o p b r draw) (good : Bool) : PInv (M.over d good draw) := by
  obtain ⟨q1, q2⟩ := pause_ok hs
  rw [over_eq hs good]
  refine ⟨fun x hx => ?_, fun x hx => ?_⟩
  · simp only at hx ⊢
    cases good
    · simp only [Bool.false_eq_true, if_false] at hx
      split at hx
      · exact h.fr x hx
      · rcases List.mem_or_eq_of_mem_set hx with hx | rfl
        · exact h.fr x hx
        · show M.now + nextPause M.c r.pa draw ≤ _
          omega
    · exact h.fr x hx
  · simp only at hx ⊢
    rcases List.mem_or_eq_of_mem_set hx with hx | rfl
    · exact h.un x hx
    · rcases heard_unt { o with way := -1 } M.c M.now good with e | e
      · rw [e]; exact h.un o (List.mem_of_getElem? hs.ho)
      · rw [e]; exact Int.le_refl _
theorem PInv.overs {M : Ag} {t : Nat} {draw : Int} (h : PInv M) (hi : Inv M t) (ht : t ≤ 10000000000000) (hd : 0 ≤ draw) : ∀ k, PInv (M.overs draw k)
  | 0 => h
  | k + 1 => by
    have ih := PInv.overs h hi ht hd k
    obtain ⟨i1, i2, _⟩ := overs_os hi ht hd k
    rw [Ag.overs_succ]
    cases ho : M.os[k]? with
    | none => exact ih
    | some o =>
      simp only
      split
      · rename_i hc
        obtain ⟨p, b, r, hs, _⟩ := i1.setOk ht hd ((i2 k (Nat.le_refl _)).trans ho) hc.1
        exact ih.over hs false
      · exact ih
theorem PInv.timed {M : Ag} {t : Nat} {draw : Int} (h : PInv M) (hi : Inv M t) (ht : t ≤ 10000000000000) (hd : 0 ≤ draw) : PInv (M.timed draw) := by
  rw [timed_eq (hi.giveOk ht hd)]
  exact (h.overs hi ht hd _).logged _
theorem sentTo_unt {M : Ag} (h : PInv M) (d : Nat) : PInv (M.sentTo d).1 := by
  unfold Ag.sentTo
  cases ho : M.os[d]? with
  | none => exact h
  | some o =>
    simp only
    split
    · exact h
    · refine ⟨h.fr, fun x hx => ?_⟩
      rcases List.mem_or_eq_of_mem_set (show x ∈ M.os.set d _ from hx) with hx | rfl
      · exact h.un x hx
      · exact h.un o (List.mem_of_getElem? ho)
theorem PInv.sentOut {M : Ag} (h : PInv M) : ∀ k, PInv (M.sentOut k).1
  | 0 => h
  | k + 1 => sentTo_unt (PInv.sentOut h k) k
theorem PInv.ticked {M : Ag} {t : Nat} {ms draw : Int} (h : PInv M) (hi : Inv M t) (ht : t + 1 ≤ 10000000000000) (h0 : 0 ≤ ms) (h1 : ms ≤ 60000) (hd : 0 ≤ draw) : PInv (M.ticked ms draw).1 :=
  ((h.later h0).timed (hi.later h0 h1) ht hd).sentOut _
theorem PInv.replied {M : Ag} {t d : Nat} {o : Out} {draw : Int} (h : PInv M) (hi : Inv M t) (ht : t ≤ 10000000000000) (hd : 0 ≤ draw) (ho : M.os[d]? = some o) (hw : o.way ≠ -1) (good : Bool) : PInv (M.replied d good draw) := by
  obtain ⟨p, b, r, hs, _⟩ := hi.setOk ht hd ho hw
  obtain ⟨k, _, _, f, e⟩ := replied_eq hs good
  rw [e]
  exact (h.over hs good).logged _
theorem PInv.submitted {M : Ag} {t : Nat} (h : PInv M) (hi : Inv M t) (b : Bat) : PInv (M.submitted b) := by
  unfold Ag.submitted
  split
  · refine ⟨fun r hr => ?_, h.un⟩
    rcases List.mem_append.1 (show r ∈ M.rt ++ [⟨M.now, M.c.ba⟩] from hr) with hr | hr
    · exact h.fr r hr
    · obtain rfl := List.mem_singleton.1 hr
      have hc := Cfg.ok hi.good.1
      have := hc.ba
      have := hc.ca
      show M.now ≤ M.now + M.c.ca
      omega
  · exact h
theorem PInv.crashed {M : Ag} {t : Nat} (hi : Inv M t) : PInv M.crashed := by
  have hc := Cfg.ok hi.good.1
  refine ⟨fun r hr => ?_, fun o ho => ?_⟩
  · rw [(List.mem_replicate.1 (show r ∈ List.replicate M.bs.length (⟨0, M.c.ba⟩ : Ret) from hr)).2]
    have := hc.ba
    have := hc.ca
    show (0 : Int) ≤ 0 + M.c.ca
    omega
  · rw [(List.mem_replicate.1 ho).2]
    have := hc.op
    show (0 : Int) ≤ 0 + M.c.op
    omega
theorem PInv.new {c : Cfg} {D : DataW Unit} {ns : List (List UInt8)} (hg : GoodC c D) : PInv (Ag.new c D ns) := by
  have hc := Cfg.ok hg.1
  refine ⟨fun r hr => absurd hr (by simp [Ag.new]), fun o ho => ?_⟩
  rw [(List.mem_replicate.1 (show o ∈ List.replicate c.d.toNat _ from ho)).2]
  have := hc.op
  show (0 : Int) ≤ 0 + c.op
  omega

/-- What goes to one destination stands in its own line alone. -/
theorem sentOut_far (M : Ag) : ∀ (k d : Nat), k ≤ d → (M.sentOut k).1.os[d]? = M.os[d]?
  | 0, _, _ => rfl
  | k + 1, d, h => by
    show ((M.sentOut k).1.sentTo k).1.os[d]? = _
    rw [← sentOut_far M k d (by omega)]
    unfold Ag.sentTo
    cases (M.sentOut k).1.os[k]? with
    | none => rfl
    | some o =>
      simp only
      split
      · rfl
      · show ((M.sentOut k).1.os.set k _)[d]? = _
        rw [List.getElem?_set_ne (by omega)]
theorem sentTo_same {M M' : Ag} (h1 : M'.D = M.D) (h2 : M'.ns = M.ns) (h3 : M'.bs = M.bs) (h4 : M'.rt = M.rt) (h5 : M'.now = M.now) {d : Nat} (h6 : M'.os[d]? = M.os[d]?) : (M'.sentTo d).2 = (M.sentTo d).2 := by
  have hz : M'.sizes d = M.sizes d := by unfold Ag.sizes Ag.size; rw [h2, h3, h4, h5]
  have hq : M'.quanta = M.quanta := by unfold Ag.quanta; rw [h1, h2]
  unfold Ag.sentTo
  rw [h6, hz, hq, h5, h3, h2]
  cases M.os[d]? with
  | none => rfl
  | some o => simp only; split <;> rfl
theorem sentTo_os {M M' : Ag} (h1 : M'.D = M.D) (h2 : M'.ns = M.ns) (h3 : M'.bs = M.bs) (h4 : M'.rt = M.rt) (h5 : M'.now = M.now) {d : Nat} (h6 : M'.os[d]? = M.os[d]?) : (M'.sentTo d).1.os[d]? = (M.sentTo d).1.os[d]? := by
  have hz : M'.sizes d = M.sizes d := by unfold Ag.sizes Ag.size; rw [h2, h3, h4, h5]
  have hq : M'.quanta = M.quanta := by unfold Ag.quanta; rw [h1, h2]
  unfold Ag.sentTo
  rw [h6, hz, hq, h5, h3, h2]
  cases ho : M.os[d]? with
  | none => simp only; rw [h6, ho]
  | some o =>
    simp only
    split
    · rw [h6]
    · show (M'.os.set d _)[d]? = (M.os.set d _)[d]?
      rw [List.getElem?_set_self (List.getElem?_eq_some_iff.1 ho).1, List.getElem?_set_self (List.getElem?_eq_some_iff.1 (h6.trans ho)).1]
theorem sentOut_rt (M : Ag) : ∀ k, (M.sentOut k).1.rt = M.rt ∧ (M.sentOut k).1.now = M.now
  | 0 => ⟨rfl, rfl⟩
  | k + 1 => by
    obtain ⟨i1, i2⟩ := sentOut_rt M k
    show ((M.sentOut k).1.sentTo k).1.rt = _ ∧ ((M.sentOut k).1.sentTo k).1.now = _
    unfold Ag.sentTo
    cases (M.sentOut k).1.os[k]? with
    | none => exact ⟨i1, i2⟩
    | some o => simp only; split <;> exact ⟨i1, i2⟩
theorem sentOut_succ2 (M : Ag) (k : Nat) : (M.sentOut (k + 1)).2 = (M.sentOut k).2 ++ (M.sentTo k).2 := by
  obtain ⟨e1, e2, e3, e4, _, _⟩ := sentOut_same M k
  obtain ⟨e5, e6⟩ := sentOut_rt M k
  show (M.sentOut k).2 ++ ((M.sentOut k).1.sentTo k).2 = _
  rw [sentTo_same e2 e3 e4 e5 e6 (sentOut_far M k k (Nat.le_refl _))]
theorem sentOut_at (M : Ag) : ∀ (k d : Nat), d < k → (M.sentOut k).1.os[d]? = (M.sentTo d).1.os[d]?
  | 0, _, h => absurd h (by omega)
  | k + 1, d, h => by
    show ((M.sentOut k).1.sentTo k).1.os[d]? = _
    by_cases e : d = k
    · subst e
      obtain ⟨_, e2, e3, e4, _, _⟩ := sentOut_same M d
      obtain ⟨e5, e6⟩ := sentOut_rt M d
      exact sentTo_os e2 e3 e4 e5 e6 (sentOut_far M d d (Nat.le_refl _))
    · rw [← sentOut_at M k d (by omega)]
      unfold Ag.sentTo
      cases (M.sentOut k).1.os[k]? with
      | none => rfl
      | some o =>
        simp only
        split
        · rfl
        · show ((M.sentOut k).1.os.set k _)[d]? = _
          rw [List.getElem?_set_ne (by omega)]
/-- Nothing waits for a destination, nothing goes. -/
theorem sizes_none {M : Ag} {d : Nat} (h : ∀ b ∈ M.bs, b.st = 1 → b.dst ≠ d) : (M.sizes d).all (· == 0) = true := by
  rw [List.all_eq_true]
  intro z hz
  obtain ⟨x, _, rfl⟩ := List.mem_map.1 hz
  have : pend M.bs d x = [] := List.eq_nil_iff_forall_not_mem.2 fun i hi => by
    obtain ⟨b, h1, h2, _, h4⟩ := mem_pend.1 hi
    exact h b (List.mem_of_getElem? h1) h4 h2
  unfold Ag.size
  rw [this]
  rfl
theorem sizes_some {M : Ag} {d : Nat} {b : Bat} (hb : b ∈ M.bs) (hst : b.st = 1) (hd : b.dst = d) (hn : b.ten ∈ M.ns) (hr : ∀ r ∈ M.rt, r.fr ≤ M.now) (h0 : 0 ≤ M.now) : (M.sizes d).all (· == 0) = false := by
  rw [List.all_eq_false]
  refine ⟨M.size d b.ten, List.mem_map_of_mem hn, ?_⟩
  obtain ⟨i, hi, e⟩ := List.getElem_of_mem hb
  have hm : i ∈ pend M.bs d b.ten := mem_pend.2 ⟨b, by rw [List.getElem?_eq_getElem hi, e], hd, rfl, hst⟩
  unfold Ag.size
  cases hp : pend M.bs d b.ten with
  | nil => rw [hp] at hm; cases hm
  | cons p ps =>
    simp only
    have hlt : ¬ M.now < (M.rt[p]?.map (·.fr)).getD 0 := by
      cases hq : M.rt[p]? with
      | none => show ¬ M.now < 0; omega
      | some r => have := hr r (List.mem_of_getElem? hq); show ¬ M.now < r.fr; omega
    rw [if_neg hlt]
    simp
end Go.Proofs.YtojpjaifhjigfabGreatDoor

/- conduitkeep's run: submit and reply, whatever they meet. -/
namespace Go.Proofs.YtojpjaifhjigfabGreatDoor
open Go.RowKit Go.Maps

theorem rsub_any (A : Nat → Addr) (w wr : World) (L : Labs) (gr g cm : Nat) (zs : List Int) (N : Nat) (R : Rn) (M : Ag) (t : Nat) (dI tI : Int) (size : Nat) (hN : N = 1 + pickN (zs.getD 9 0) 4) (hS : Sents.Holds w 197 gl 11 A) (hK : RK w wr L gr g cm zs N R M t) (ht : t + 10 ≤ 4000000000000) (hn : R.n < 100) (hd : -9223372036854775808 ≤ dI ∧ dI ≤ 9223372036854775807) (htI : -9223372036854775808 ≤ tI ∧ tI ≤ 9223372036854775807) (hs : size ≤ 63) :
    Calls Tryz.prog 24 #[.pointer (some ⟨gr, 0, none⟩), .int .i64 dI, .int .i64 tI, .int .i64 size] wr fun e w' => SubR w gr g cm zs N (rbat (pickN dI (madeC zs).d.toNat) (pickN tI N) R.n size) R M (t + 1) e w' :=
  rsub_core A w wr (clip L wr.heap.size) gr g cm zs N R M t dI tI size hN hS hK.clip (fun _ hk => clip_none L hk) ht hn hd htI hs
set_option maxHeartbeats 400000 in
theorem rsub_full (w wr : World) (L : Labs) (gr g cm : Nat) (zs : List Int) (N : Nat) (R : Rn) (M : Ag) (t : Nat) (v1 v2 v3 : Int) (hK : RK w wr L gr g cm zs N R M t) (hn : ¬ R.n < 100) :
    Calls Tryz.prog 24 #[.pointer (some ⟨gr, 0, none⟩), .int .i64 v1, .int .i64 v2, .int .i64 v3] wr fun e w' => e = .returned (.tuple #[]) ∧ wr = w' := by
  obtain ⟨fv, wv, hP⟩ := hK.at'
  have c15 : wr.cell? ⟨gr, 15, none⟩ = some (.int .i64 R.n) := hP.blk.1.cell 15
  have h100 : (100 : Int) ≤ (R.n : Int) := by omega
  clear hP hK
  go_enter Tryz.func24, Tryz.ntmps24
  go_wp2_with fail
  first | go_end0 | refine bodyPost_ret (results_none rfl _ _ _) rfl ?_
  exact ⟨rfl, rfl⟩
/-- An agent that is played, whatever it is. -/
def RunAny (w : World) (zs : List Int) (N t gr : Nat) (w' : World) : Prop := ∃ g cm R M L, RK w w' L gr g cm zs N R M t ∧ PInv M
theorem RK.mono {w wr : World} {L : Labs} {gr g cm : Nat} {zs : List Int} {N : Nat} {R : Rn} {M : Ag} {t t' : Nat} (h : RK w wr L gr g cm zs N R M t) (ht : t ≤ t') : RK w wr L gr g cm zs N R M t' :=
  ⟨h.at', h.ag, h.cm, h.lo, h.b, h.rw', h.bs, h.ids, h.n, h.n100, h.inv.more ht, h.linv, h.c, h.D, h.ns, fun f hf => by have := h.sn f hf; omega, by have := h.lg; omega⟩
theorem RunAny.mono {w : World} {zs : List Int} {N t t' gr : Nat} {w' : World} (h : RunAny w zs N t gr w') (ht : t ≤ t') : RunAny w zs N t' gr w' := by
  obtain ⟨g, cm, R, M, L, h1, h2⟩ := h
  exact ⟨g, cm, R, M, L, h1.mono ht, h2⟩
theorem sub_run (A : Nat → Addr) (w wr : World) (gr : Nat) (zs : List Int) (N : Nat) (t : Nat) (dI tI : Int) (size : Nat) (hN : N = 1 + pickN (zs.getD 9 0) 4) (hS : Sents.Holds w 197 gl 11 A) (h : RunAny w zs N t gr wr) (ht : t + 10 ≤ 4000000000000) (hd : -9223372036854775808 ≤ dI ∧ dI ≤ 9223372036854775807) (htI : -9223372036854775808 ≤ tI ∧ tI ≤ 9223372036854775807) (hs : size ≤ 63) :
    Calls Tryz.prog 24 #[.pointer (some ⟨gr, 0, none⟩), .int .i64 dI, .int .i64 tI, .int .i64 size] wr fun e w' => e = .returned (.tuple #[]) ∧ RunAny w zs N (t + 1) gr w' := by
  obtain ⟨g, cm, R, M, L, h1, h2⟩ := h
  by_cases hn : R.n < 100
  · refine (rsub_any A w wr L gr g cm zs N R M t dI tI size hN hS h1 ht hn hd htI hs).mono ?_
    rintro e w' ⟨rfl, L', q⟩
    exact ⟨rfl, g, cm, _, _, L', q, h2.submitted h1.inv _⟩
  · refine (rsub_full w wr L gr g cm zs N R M t dI tI size h1 hn).mono ?_
    rintro e w' ⟨rfl, rfl⟩
    exact ⟨rfl, g, cm, R, M, L, h1.mono (by omega), h2⟩
theorem tick_run (w wr : World) (gr : Nat) (zs : List Int) (N : Nat) (t : Nat) (ms draw : Int) (h : RunAny w zs N t gr wr) (ht : t + 10 ≤ 4000000000000) (h0 : 0 ≤ ms) (h1 : ms ≤ 60000) (hd : 0 ≤ draw) :
    Calls Tryz.prog 25 #[.pointer (some ⟨gr, 0, none⟩), .int .i64 ms, .int .i64 draw] wr fun e w' => ∃ v, e = .returned v ∧ RunAny w zs N (t + 1) gr w' := by
  obtain ⟨g, cm, R, M, L, k1, k2⟩ := h
  refine (rtick_any w wr L gr g cm zs N R M t ms draw k1 ht h0 h1 hd).mono ?_
  rintro e w' ⟨v, R', L', rfl, _, q, _⟩
  exact ⟨v, rfl, g, cm, R', _, L', q, k2.ticked k1.inv (by omega) h0 h1 hd⟩
theorem reply_run (A : Nat → Addr) (w wr : World) (gr : Nat) (zs : List Int) (N : Nat) (t d : Nat) (good : Bool) (draw : Int) (hS : Sents.Holds w 197 gl 11 A) (h : RunAny w zs N t gr wr) (ht : t + 10 ≤ 4000000000000) (hdl : (d : Int) < (madeC zs).d) (hd : 0 ≤ draw) :
    Calls Tryz.prog 26 #[.pointer (some ⟨gr, 0, none⟩), .int .i64 d, .bool good, .int .i64 draw] wr fun e w' => e = .returned (.tuple #[]) ∧ RunAny w zs N (t + 1) gr w' := by
  obtain ⟨g, cm, R, M, L, k1, k2⟩ := h
  have hol := k1.inv.ol
  rw [k1.c] at hol
  obtain ⟨o, ho⟩ : ∃ o, M.os[d]? = some o := ⟨_, List.getElem?_eq_getElem (by omega)⟩
  by_cases hw : o.way = -1
  · refine (rreply_stale A w wr L gr g cm zs N R M t d o good draw hS k1 hd ho hw).mono ?_
    rintro e w' ⟨rfl, q⟩
    exact ⟨rfl, g, cm, R, M, L, q.mono (by omega), k2⟩
  · refine (rreply_live w wr L gr g cm zs N R M t d o good draw k1 ht hd ho hw).mono ?_
    rintro e w' ⟨rfl, R', L', q, _⟩
    exact ⟨rfl, g, cm, R', _, L', q, k2.replied k1.inv (by omega) hd ho hw good⟩
end Go.Proofs.YtojpjaifhjigfabGreatDoor

/- conduitkeep's run: a crash, the walk. -/
namespace Go.Proofs.YtojpjaifhjigfabGreatDoor
open Go.RowKit Go.Maps

/-- Open of the own log. -/
def ROpened (W : World) (M : Ag) (v e : Value) (wx : World) : Prop := ∃ g' L', v = .pointer (some ⟨g', 0, none⟩) ∧ e = .nilIface ∧ AgentAt wx L' 1 g' M.crashed ∧ Below W.heap.size W wx ∧ ∀ k, k < W.heap.size → L' k = none
theorem ropen (A : Nat → Addr) (W : World) (cm : Nat) (zs : List Int) (N : Nat) (M : Ag) (hN : N = 1 + pickN (zs.getD 9 0) 4) (hS : Sents.Holds W 197 gl 11 A) (ho : ∃ n, n ≤ 4 ∧ OM W cm n (DT (madeT zs N))) (hl : LInv M) (hc : M.c = madeC zs) (hD : M.D = DT (madeT zs N)) (hns : M.ns = kn.take N) (hlen : M.log.length ≤ 100000000000000) :
    Calls Tryz.prog 10 #[(madeC zs).val (some cm), encStr M.log] W fun e w' => ∃ v x, e = .returned (.tuple #[v, x]) ∧ ROpened W M v x w' := by
  obtain ⟨n, hn, ho⟩ := ho
  have h9 := pickN_lt (zs.getD 9 0) (n := 4) (by omega)
  have hg := made_good zs
  rw [← hN] at hg
  refine (open_log A 1 (madeC zs) (some cm) _ M.log W hS (Or.inr ⟨cm, n, rfl, ho, by unfold big; omega⟩) hg (by omega)).mono ?_
  rintro e w' ⟨ns, res, h1, h2, h3, h4, _, h6⟩
  have hns' := names_eq zs (by omega) (by omega) h1 h2
  obtain ⟨M', n', e1, em⟩ := crashed_of hl (hns'.trans hns.symm) (by rw [hc, hD]; exact h3)
  obtain ⟨g', L', rfl, hA, _, hl', _⟩ := h6 M' n' e1
  rw [em] at hA
  exact ⟨_, _, rfl, g', L', rfl, rfl, hA, h4, hl'⟩
/-- The ways are taken back one by one. -/
structure WaysGone (R R1 : Rn) (k : Nat) : Prop where
  fs : R1.fs = R.fs
  n : R1.n = R.n
  time : R1.time = 0
  wl : R1.ws.length = R.ws.length
  ws : ∀ (d : Nat), d < k → ∀ (y : Wy), R1.ws[d]? = some y → y = ⟨-1, 0, 0⟩
theorem WaysGone.next {R R1 : Rn} {k : Nat} (h : WaysGone R R1 k) (hk : k < R.ws.length) : WaysGone R { R1 with ws := R1.ws.set k ⟨-1, 0, 0⟩ } (k + 1) := by
  refine ⟨h.fs, h.n, h.time, by simp only [List.length_set]; exact h.wl, fun d hd y hy => ?_⟩
  simp only at hy
  by_cases e : k = d
  · subst e
    rw [List.getElem?_set_self (by rw [h.wl]; exact hk)] at hy
    exact (Option.some.inj hy).symm
  · rw [List.getElem?_set_ne e] at hy
    exact h.ws d (by omega) y hy
/-- The pauses too. -/
structure FactsGone (R R2 : Rn) (k : Nat) : Prop where
  fb : R2.fs.map Fa.b = R.fs.map Fa.b
  sn : R2.fs.map Fa.sn = R.fs.map Fa.sn
  n : R2.n = R.n
  time : R2.time = 0
  wl : R2.ws.length = R.ws.length
  ws : ∀ (d : Nat) (y : Wy), R2.ws[d]? = some y → y = ⟨-1, 0, 0⟩
  af : ∀ (i : Nat), i < k → ∀ (f : Fa), R2.fs[i]? = some f → f.af = 0
theorem WaysGone.facts {R R1 : Rn} (h : WaysGone R R1 R.ws.length) : FactsGone R R1 0 :=
  ⟨by rw [h.fs], by rw [h.fs], h.n, h.time, h.wl, fun d y hy => h.ws d (by rw [← h.wl]; exact (List.getElem?_eq_some_iff.1 hy).1) y hy, fun i hi => absurd hi (by omega)⟩
theorem FactsGone.len {R R2 : Rn} {k : Nat} (h : FactsGone R R2 k) : R2.fs.length = R.fs.length := by have := congrArg List.length h.fb; simpa using this
theorem FactsGone.next {R R2 : Rn} {k : Nat} {f : Fa} (h : FactsGone R R2 k) (hf : R2.fs[k]? = some f) : FactsGone R { R2 with fs := R2.fs.set k { f with af := 0 } } (k + 1) := by
  have hk := (List.getElem?_eq_some_iff.1 hf).1
  have key : ∀ {α : Type} (p : Fa → α), p { f with af := 0 } = p f → (R2.fs.set k { f with af := 0 }).map p = R2.fs.map p := fun p e => by
    rw [List.map_set, e]
    apply List.ext_getElem?
    intro i
    by_cases e2 : k = i
    · subst e2
      rw [List.getElem?_set_self (by rw [List.length_map]; exact hk), List.getElem?_map, hf]
      rfl
    · rw [List.getElem?_set_ne e2]
  refine ⟨(key Fa.b rfl).trans h.fb, (key Fa.sn rfl).trans h.sn, h.n, h.time, h.wl, h.ws, fun i hi x hx => ?_⟩
  simp only at hx
  by_cases e : k = i
  · subst e
    rw [List.getElem?_set_self hk] at hx
    rw [← Option.some.inj hx]
  · rw [List.getElem?_set_ne e] at hx
    exact h.af i (by omega) x hx
theorem FactsGone.all {R R2 : Rn} (h : FactsGone R R2 R.fs.length) : CrashOk R R2 :=
  ⟨h.fb, h.sn, fun i f hf => h.af i (by rw [← h.len]; exact (List.getElem?_eq_some_iff.1 hf).1) f hf, h.wl, h.ws, h.time, h.n⟩
/-- What crash brings. -/
def CrashR (w : World) (gr cm : Nat) (zs : List Int) (N : Nat) (M' : Ag) (t : Nat) (R : Rn) (e : Ending) (w' : World) : Prop :=
  e = .returned (.tuple #[]) ∧ ∃ g' R' L', RK w w' L' gr g' cm zs N R' M' t ∧ R'.n = R.n

set_option maxRecDepth 100000 in
set_option maxHeartbeats 8000000 in
theorem rcrash_any (A : Nat → Addr) (w wr : World) (L : Labs) (gr g cm : Nat) (zs : List Int) (N : Nat) (R : Rn) (M : Ag) (t : Nat) (hN : N = 1 + pickN (zs.getD 9 0) 4) (hS : Sents.Holds w 197 gl 11 A) (hK : RK w wr L gr g cm zs N R M t) (ht : t + 10 ≤ 4000000000000) :
    Calls Tryz.prog 27 #[.pointer (some ⟨gr, 0, none⟩)] wr fun e w' => CrashR w gr cm zs N M.crashed t R e w' := by
  have HLog := hide (fun W (hW : Below wr.heap.size wr W) => log_any L 1 g M W (hK.ag.keep (Step.of_below (p := fun _ => False) hW) (fun _ h => h)))
  have h100 : R.fs.length ≤ 100 := by rw [← hK.n]; exact hK.n100
  have hlen : M.bs.length = R.fs.length := hK.rw'.len.symm
  have HOp : Hid (∀ W, Below wr.heap.size wr W → Calls Tryz.prog 10 #[(madeC zs).val (some cm), encStr M.log] W fun e w' => ∃ v x, e = .returned (.tuple #[v, x]) ∧ ROpened W M v x w') := fun W hW => by
    have hb := hK.rb.step (Step.of_below (p := ofR) (L := L) hW)
    obtain ⟨n, hn, ho, _⟩ := hb.cm
    exact ropen A W cm zs N M hN (hS.below hb.b) ⟨n, hn, ho⟩ hK.linv hK.c hK.D hK.ns (by have := hK.lg; omega)
  obtain ⟨fv, wv, hP⟩ := hK.at'
  have c0 : wr.cell? ⟨gr, 0, none⟩ = some (.pointer (some ⟨g, 0, none⟩)) := hP.blk.1.cell 0
  have c1 : wr.cell? ⟨gr, 1, none⟩ = some (.int .i64 (madeC zs).d) := hP.blk.1.cell 1
  have c2 : wr.cell? ⟨gr, 2, none⟩ = some (.map (some cm)) := hP.blk.1.cell 2
  have c3 : wr.cell? ⟨gr, 3, none⟩ = some (.int .i64 (madeC zs).q) := hP.blk.1.cell 3
  have c4 : wr.cell? ⟨gr, 4, none⟩ = some (.int .i64 (madeC zs).at') := hP.blk.1.cell 4
  have c5 : wr.cell? ⟨gr, 5, none⟩ = some (.int .i64 (madeC zs).ba) := hP.blk.1.cell 5
  have c6 : wr.cell? ⟨gr, 6, none⟩ = some (.int .i64 (madeC zs).ca) := hP.blk.1.cell 6
  have c7 : wr.cell? ⟨gr, 7, none⟩ = some (.int .i64 (madeC zs).ti) := hP.blk.1.cell 7
  have c8 : wr.cell? ⟨gr, 8, none⟩ = some (.int .i64 (madeC zs).wi) := hP.blk.1.cell 8
  have c9 : wr.cell? ⟨gr, 9, none⟩ = some (.int .i64 (madeC zs).le) := hP.blk.1.cell 9
  have c10 : wr.cell? ⟨gr, 10, none⟩ = some (.float .f64 (madeC zs).th) := hP.blk.1.cell 10
  have c11 : wr.cell? ⟨gr, 11, none⟩ = some (.int .i64 (madeC zs).op) := hP.blk.1.cell 11
  have HKp : Hid (∀ W, Below wr.heap.size wr W → Blk W gr (runCells g cm (madeC zs) fv wv R) 34) := fun W hW => hP.blk.1.below hW hP.blk.1.lt
  have HK := hide hK
  generalize hcc : madeC zs = cc at c1 c2 c3 c4 c5 c6 c7 c8 c9 c10 c11 HOp HKp
  have Hcc := hide hcc
  clear hP hK hcc
  go_enter Tryz.func27, Tryz.ntmps27
  go_wp2_with fail
  go_cut [2, 3] (fun s2 s3 wx => ROpened wr M s2 s3 wx)
  case first =>
    go_region_held3 (fun w' => w'.cell? ⟨gr, 0, none⟩ = some (.pointer (some ⟨g, 0, none⟩)) ∧ w'.cell? ⟨gr, 1, none⟩ = some (.int .i64 cc.d) ∧ w'.cell? ⟨gr, 2, none⟩ = some (.map (some cm)) ∧ w'.cell? ⟨gr, 3, none⟩ = some (.int .i64 cc.q) ∧ w'.cell? ⟨gr, 4, none⟩ = some (.int .i64 cc.at') ∧ w'.cell? ⟨gr, 5, none⟩ = some (.int .i64 cc.ba) ∧ w'.cell? ⟨gr, 6, none⟩ = some (.int .i64 cc.ca) ∧ w'.cell? ⟨gr, 7, none⟩ = some (.int .i64 cc.ti) ∧ w'.cell? ⟨gr, 8, none⟩ = some (.int .i64 cc.wi) ∧ w'.cell? ⟨gr, 9, none⟩ = some (.int .i64 cc.le) ∧ w'.cell? ⟨gr, 10, none⟩ = some (.float .f64 cc.th) ∧ w'.cell? ⟨gr, 11, none⟩ = some (.int .i64 cc.op)) (go_keep)
      (first
        | (go_at_call 6; refine (HLog.out _ (by first | exact Below.refl _ _ | exact (Below.refl _ _).drew)).mono ?_; rintro e w2 ⟨rfl, rfl⟩)
        | (go_at_call 10; refine (HOp.out _ (by first | exact Below.refl _ _ | exact (Below.refl _ _).drew)).mono ?_; rintro e w2 ⟨v, x, rfl, hO⟩; have HO := hide hO; clear hO; have hB2 := HKp.out w2 (by obtain ⟨_, _, _, _, _, q2, _⟩ := HO.out; first | exact q2 | exact (Below.refl wr.heap.size wr).drew.trans q2); have z0 := hB2.cell 0; have z1 := hB2.cell 1; have z2 := hB2.cell 2; have z3 := hB2.cell 3; have z4 := hB2.cell 4; have z5 := hB2.cell 5; have z6 := hB2.cell 6; have z7 := hB2.cell 7; have z8 := hB2.cell 8; have z9 := hB2.cell 9; have z10 := hB2.cell 10; have z11 := hB2.cell 11; simp [runCells] at z0 z1 z2 z3 z4 z5 z6 z7 z8 z9 z10 z11; clear hB2))
    all_goals
      go_wp2_with fail
      go_meet
      obtain ⟨g', L', e1, e2, q1, q2, q3⟩ := HO.out
      first
        | exact ⟨g', L', e1, e2, q1, q2, q3⟩
        | exact ⟨g', L', e1, e2, q1, (Below.refl wr.heap.size wr).drew.trans q2, q3⟩
  case rest =>
    obtain ⟨g', L', rfl, rfl, hA1, hb1, hl1⟩ := hcut
    obtain ⟨hR1, hA1, hB1⟩ := crash_labs HK.out.at' HK.out.rb hb1 hA1 hl1
    generalize crashLabs L L' wr.heap.size = L2 at *
    obtain ⟨fv, wv, hP1⟩ := hR1
    have d0 : wc.cell? ⟨gr, 0, none⟩ = some (.pointer (some ⟨g, 0, none⟩)) := hP1.blk.1.cell 0
    have f0 : wc.frozen? ⟨gr, 0, none⟩ = false := hP1.blk.1.frozen 0
    have d14 : wc.cell? ⟨gr, 14, none⟩ = some (.int .i64 R.time) := hP1.blk.1.cell 14
    have f14 : wc.frozen? ⟨gr, 14, none⟩ = false := hP1.blk.1.frozen 14
    obtain ⟨hP2, hS2⟩ := hP1.setX g'
    obtain ⟨hP3, hS3⟩ := hP2.setTime 0
    have HP3 := hide hP3
    have HS3 : Hid (Step (ofP 0) L2 wc L2 ((wc.setCell ⟨gr, 0, none⟩ (.pointer (some ⟨g', 0, none⟩))).setCell ⟨gr, 14, none⟩ (.int .i64 0))) := (step0 hS2).trans (step0 hS3)
    have HA1 := hide hA1
    have HB1 := hide hB1
    clear hP1 hP2 hP3 hS2 hS3 hA1 hB1 hb1 hl1 c0 c1 c2 c3 c4 c5 c6 c7 c8 c9 c10 c11 HOp HLog HKp
    go_wp2_with fail
    generalize hW3 : (wc.setCell ⟨gr, 0, none⟩ (.pointer (some ⟨g', 0, none⟩))).setCell ⟨gr, 14, none⟩ (.int .i64 0) = W3 at *
    clear hW3 d0 f0 d14 f14
    obtain ⟨nd, hnd⟩ : ∃ nd, R.ws.length = nd := ⟨_, rfl⟩
    obtain ⟨nf, hnf⟩ : ∃ nf, R.fs.length = nf := ⟨_, rfl⟩
    have hnd4 : nd ≤ 4 := by
      have h1 := HK.out.inv.ol
      have h2 := (Cfg.ok HK.out.inv.good.1).d
      have h3 := HK.out.rw'.wl
      omega
    have Hnd := hide hnd
    have Hnf := hide hnf
    clear hnd
    go_loopw [4] (fun i wr => ∃ (k : Nat) (R1 : Rn), k ≤ nd ∧ i = .int .i64 k ∧ WaysGone R R1 k ∧ RunAt wr L2 gr g' cm (madeC zs) R1 ∧ Step (ofP 0) L2 wc L2 wr) (fun i _ => nd - (intOf i).toNat)
    case atStart => exact ⟨0, { R with time := 0 }, Nat.zero_le _, rfl, ⟨rfl, rfl, rfl, rfl, fun d hd => absurd hd (by omega)⟩, ⟨_, _, HP3.out⟩, HS3.out⟩
    case round =>
      obtain ⟨k, R1, hk, rfl, hG, hR, hS⟩ := hrel
      have hwl : R1.ws.length = nd := hG.wl.trans Hnd.out
      by_cases hlt : k < nd
      · have hltI : (k : Int) < (nd : Int) := by omega
        obtain ⟨y, hy⟩ : ∃ y, R1.ws[k]? = some y := ⟨_, List.getElem?_eq_getElem (by omega)⟩
        obtain ⟨fv', wv', hP'⟩ := hR
        obtain ⟨gw, wk, rfl, _, hcw, hfw⟩ := hP'.way hy
        obtain ⟨hP4, hS4⟩ := hP'.layWay hy ⟨-1, 0, 0⟩
        rw [hwl] at hP' hP4
        have c13 : wr.cell? ⟨gr, 13, none⟩ = some (.slice (some ⟨gw, 0, none⟩) nd wk) := hP'.blk.1.cell 13
        have y0 : wr.cell? ⟨gw, k * 3, none⟩ = some (.int .i64 y.f) := hcw 0 _ rfl
        have y1 : wr.cell? ⟨gw, k * 3 + 1, none⟩ = some (.int .i64 y.tr) := hcw 1 _ rfl
        have y2 : wr.cell? ⟨gw, k * 3 + 2, none⟩ = some (.int .i64 y.bg) := hcw 2 _ rfl
        have z0 := hfw (k * 3)
        have z1 := hfw (k * 3 + 1)
        have z2 := hfw (k * 3 + 2)
        have HN := hide (hG.next (by rw [Hnd.out]; exact hlt))
        have HP4 := hide hP4
        have HS4 := hide hS4
        have HSl := hide hS
        clear hG hS hP' hcw hfw hP4 hS4 hy hwl
        go_wp2_with fail
        go_roundw
        case rel => exact ⟨k + 1, _, by omega, by go_num, HN.out, ⟨_, _, HP4.out⟩, HSl.out.trans HS4.out⟩
        case measure => simp [intOf]; omega
      · obtain rfl : nd = k := by omega
        have hltI : ¬ ((nd : Int) < (nd : Int)) := by omega
        have hG' := (by rw [← Hnd.out] at hG; exact hG.facts : FactsGone R R1 0)
        obtain ⟨fv', wv', hP'⟩ := hR
        obtain ⟨wa, wk, rfl, _⟩ := hP'.wy.shape
        have c13 : wr.cell? ⟨gr, 13, none⟩ = some (.slice wa nd wk) := by have := hP'.blk.1.cell 13; rw [hwl] at this; exact this
        have HG := hide hG'
        have HR : Hid (RunAt wr L2 gr g' cm (madeC zs) R1) := ⟨_, _, hP'⟩
        have HSl := hide hS
        clear hG hG' hS hP' hwl
        go_wp2_with fail
        clear c13
        go_loopw [5] (fun i wr => ∃ (j : Nat) (R2 : Rn), j ≤ nf ∧ i = .int .i64 j ∧ FactsGone R R2 j ∧ RunAt wr L2 gr g' cm (madeC zs) R2 ∧ Step (ofP 0) L2 wc L2 wr) (fun i _ => nf - (intOf i).toNat)
        case atStart => exact ⟨0, _, Nat.zero_le _, rfl, HG.out, HR.out, HSl.out⟩
        case round =>
          clear HG HR HSl HP3 HS3
          obtain ⟨j, R2, hj, rfl, hG, hR, hS⟩ := hrel
          have hfl : R2.fs.length = nf := hG.len.trans Hnf.out
          by_cases hjl : j < nf
          · have hjI : (j : Int) < (nf : Int) := by omega
            obtain ⟨f, hf⟩ : ∃ f, R2.fs[j]? = some f := ⟨_, List.getElem?_eq_getElem (by omega)⟩
            obtain ⟨fv', wv', hP'⟩ := hR
            obtain ⟨gf, fk, rfl, _, hcf, hff⟩ := hP'.fact hf
            obtain ⟨hP4, hS4⟩ := hP'.setFact hf 6 (.int .i64 0) (by omega) (f' := { f with af := 0 }) rfl
            rw [hfl] at hP' hP4
            have c12 : wr.cell? ⟨gr, 12, none⟩ = some (.slice (some ⟨gf, 0, none⟩) nf fk) := hP'.blk.1.cell 12
            have y6 : wr.cell? ⟨gf, j * 8 + 6, none⟩ = some (.int .i64 f.af) := hcf 6 _ rfl
            have z6 := hff (j * 8 + 6)
            have HN := hide (hG.next hf)
            have HP4 := hide hP4
            have HS4 := hide (step0 hS4)
            have HSl := hide hS
            clear hG hS hP' hcf hff hP4 hS4 hf hfl
            go_wp2_with fail
            go_roundw
            case rel => exact ⟨j + 1, _, by omega, by go_num, HN.out, ⟨_, _, HP4.out⟩, HSl.out.trans HS4.out⟩
            case measure => simp [intOf]; omega
          · obtain rfl : nf = j := by omega
            have hjI : ¬ ((nf : Int) < (nf : Int)) := by omega
            have hG' := (by rw [← Hnf.out] at hG; exact hG.all : CrashOk R R2)
            have hA2 := HA1.out.keep hS (fun q => not_ofP (by decide) q)
            have HLk := hide (klook_any L2 gr g' cm (madeC zs) R2 M.crashed wr hR hA2 (by rw [hfl]; exact hlen.trans Hnf.out) (by omega) (fun i b hb => ids_find HK.out.ids (by omega) hb) (fun i f b hf hb => by
              have h1 := map_at (hG'.fb.trans HK.out.bs) hf
              rw [show M.bs[i]? = some b from hb] at h1
              cases h1
              rw [← HK.out.c]
              exact Goes.refl HK.out.inv (List.mem_of_getElem? hb)))
            obtain ⟨fv', wv', hP'⟩ := hR
            obtain ⟨fa, fk, rfl, _⟩ := hP'.fa.shape
            have c12 : wr.cell? ⟨gr, 12, none⟩ = some (.slice fa nf fk) := by have := hP'.blk.1.cell 12; rw [hfl] at this; exact this
            have HG := hide hG'
            have HA2 := hide hA2
            have HB2 := hide (HB1.out.step (step_r0 hS))
            clear hG hG' hS hP' hfl hA2
            go_wp2_with fail
            refine HLk.out.mono ?_
            rintro e w5 ⟨rfl, hR5, hS5⟩
            have HR5 := hide hR5
            have HS5 := hide hS5
            clear hR5 hS5 c12 HLk
            go_wp2_with fail
            first | go_end0 | refine bodyPost_ret (results_none rfl _ _ _) rfl ?_
            exact ⟨rfl, g', _, L2, HK.out.crashed HG.out (HB2.out.step (step_r0 HS5.out)) HR5.out (HA2.out.keep HS5.out (fun q => not_ofP (by decide) q)), HG.out.n⟩
end Go.Proofs.YtojpjaifhjigfabGreatDoor

/- A list of numbers that comes in as an argument. -/
namespace Go.Proofs.YtojpjaifhjigfabGreatDoor
open Go.ChangeShapes Go.WideShapes Go.ChangeAt Go.WideMaps Go.WideElems Go.RowKit
set_option maxRecDepth 100000

theorem intCells : Tryz.prog.cellsOf 3 = 1 := by kernel_rfl
theorem wfI {n : Int} (h : (Lit.int .i64 n).wf = true) : -9223372036854775808 ≤ n ∧ n ≤ 9223372036854775807 := by
  simpa [Lit.wf, IntKind.min, IntKind.max, IntKind.signed, IntKind.bits] using h
theorem exists_list {α : Type} {n : Nat} {Q : Nat → α → Prop} (h : ∀ i, i < n → ∃ x, Q i x) : ∃ l : List α, l.length = n ∧ ∀ i (hi : i < l.length), Q i (l[i]'hi) := by
  induction n with
  | zero => exact ⟨[], rfl, fun i hi => absurd hi (Nat.not_lt_zero _)⟩
  | succ n ih =>
    obtain ⟨l, hl, hq⟩ := ih (fun i hi => h i (by omega))
    obtain ⟨x, hx⟩ := h n (by omega)
    refine ⟨l ++ [x], by simp [hl], fun i hi => ?_⟩
    by_cases hin : i < l.length
    · rw [List.getElem_append_left hin]; exact hq i hin
    · have e : i = l.length := by simp at hi; omega
      subst e
      rw [List.getElem_append_right (Nat.le_refl _)]
      simpa [hl] using hx

theorem ints_of {H : Type} {enc : TypeId × Value → H} {W : World} {a : Option Addr} {len cap : Nat} {d : DataW H} {p : List MemPlace} (h : DataW.Trod enc Tryz.prog W 0 (fun _ => true) true 22 (.slice a len cap) d p) :
    ∃ zs : List Int, zs.length = len ∧ IntsAt W a zs ∧ ∀ z ∈ zs, InR z := by
  obtain ⟨fuel, hf⟩ := h
  rcases Go.Deep.open_slice Tryz.underlying22 hf with ⟨h1, _⟩ | ⟨a', len', cap', m, n, D, Pl, h1, _, hl, hm, hmm, hx, hel⟩
  · simp only [Value.cells, List.cons.injEq, Value.slice.injEq, and_true] at h1
    obtain ⟨_, rfl, _⟩ := h1
    exact ⟨[], rfl, Or.inl rfl, fun x hx => (by cases hx)⟩
  · simp only [Value.cells, List.cons.injEq, Value.slice.injEq, and_true] at h1
    obtain ⟨rfl, rfl, rfl⟩ := h1
    have hmc : m = cap := by simpa using hmm
    subst hmc
    have hcell : ∀ i, i < len → ∃ z : Int, InR z ∧ W.cell? (a'.add i) = some (.int .i64 z) := fun i hi => by
      obtain ⟨cs', hc, ht⟩ := hel i (by omega)
      rw [intCells] at hc
      obtain ⟨z, e, _, q⟩ := DataW.trod_int Tryz.underlying3 ht
      subst e
      obtain ⟨_, _, hcc⟩ := World.cells?_some hc
      have := hcc 0 (by omega)
      refine ⟨z, wfI q, ?_⟩
      simpa [Addr.add] using this
    obtain ⟨zs, hlen, hts⟩ := exists_list (n := len) (Q := fun i (z : Int) => InR z ∧ W.cell? (a'.add i) = some (.int .i64 z)) hcell
    refine ⟨zs, hlen, ?_, ?_⟩
    · by_cases h0 : len = 0
      · exact Or.inl (List.eq_nil_of_length_eq_zero (by omega))
      · obtain ⟨b, off, sp⟩ := a'
        have hc0 := (hts 0 (by omega)).2
        have hsp : sp = none := by
          have h1 := hc0
          cases sp with
          | none => rfl
          | some x =>
            unfold World.cell? at h1
            simp only [Addr.add] at h1
            split at h1
            · split at h1
              · cases h1
              · rename_i hs
                simp at hs
            · cases h1
        subst hsp
        refine Or.inr ⟨b, off, rfl, ?_, fun k z hz => ?_⟩
        · have := World.block_lt_of_cell? W _ hc0
          rw [Addr.add_mid] at this
          exact this
        · have hk : k < zs.length := (List.getElem?_eq_some_iff.1 hz).1
          have e : zs[k] = z := (List.getElem?_eq_some_iff.1 hz).2
          have := (hts k hk).2
          rw [e, Addr.add_mid] at this
          exact this
    · intro x hx'
      obtain ⟨i, hi, rfl⟩ := List.mem_iff_getElem.1 hx'
      exact (hts i hi).1
end Go.Proofs.YtojpjaifhjigfabGreatDoor

/- A list of steps that comes in as an argument. -/
namespace Go.Proofs.YtojpjaifhjigfabGreatDoor
open Go.ChangeShapes Go.WideShapes Go.ChangeAt Go.WideMaps Go.WideElems Go.RowKit
set_option maxRecDepth 100000

/-- A step of a script. -/
structure St where
  k : Int
  d : Int
  t : Int
  n : Int
  good : Bool
def St.cells (s : St) : List Value := [.int .i64 s.k, .int .i64 s.d, .int .i64 s.t, .int .i64 s.n, .bool s.good]
structure St.Ok (s : St) : Prop where
  k : InR s.k
  d : InR s.d
  t : InR s.t
  n : InR s.n
def StepsAt (w : World) (a : Option Addr) (ss : List St) : Prop := ss = [] ∨ ∃ b off, a = some ⟨b, off, none⟩ ∧ b < w.heap.size ∧ ∀ (i : Nat) (s : St), ss[i]? = some s → ∀ (j : Nat) (v : Value), s.cells[j]? = some v → w.cell? ⟨b, off + i * 5 + j, none⟩ = some v
theorem StepsAt.below {w w' : World} {a : Option Addr} {ss : List St} (h : StepsAt w a ss) (hb : Below w.heap.size w w') : StepsAt w' a ss := by
  rcases h with h | ⟨b, off, e, h1, h2⟩
  · exact Or.inl h
  · exact Or.inr ⟨b, off, e, Nat.lt_of_lt_of_le h1 hb.size, fun i s hs j v hv => (hb.cell (p := ⟨b, off + i * 5 + j, none⟩) h1).trans (h2 i s hs j v hv)⟩
theorem stepCells : Tryz.prog.cellsOf 57 = 5 := by kernel_rfl
theorem boolCells : Tryz.prog.cellsOf 4 = 1 := by kernel_rfl
theorem stepBytes : Tryz.prog.bytesOf 57 = 40 := by kernel_rfl
theorem trod_struct5 {H : Type} {enc : TypeId × Value → H} {P : Program} {w : World} {base : Nat} {spare : Nat → Bool} {held : Bool} {t : TypeId} {f0 f1 f2 f3 f4 : Field} {fuel : Nat} {cs : List Value} {x : DataW H × List MemPlace} (ht : P.underlying t = some (.struct #[f0, f1, f2, f3, f4])) (h : DataW.trod enc P w base spare held fuel t cs = some x) :
    ∃ y0 y1 y2 y3 y4 n, cs.length = P.cellsOf t ∧ DataW.trod enc P w base spare held n f0.type ((cs.drop f0.offset).take (P.cellsOf f0.type)) = some y0 ∧ DataW.trod enc P w base spare held n f1.type ((cs.drop f1.offset).take (P.cellsOf f1.type)) = some y1 ∧
      DataW.trod enc P w base spare held n f2.type ((cs.drop f2.offset).take (P.cellsOf f2.type)) = some y2 ∧ DataW.trod enc P w base spare held n f3.type ((cs.drop f3.offset).take (P.cellsOf f3.type)) = some y3 ∧ DataW.trod enc P w base spare held n f4.type ((cs.drop f4.offset).take (P.cellsOf f4.type)) = some y4 := by
  obtain ⟨xs, n, _, rfl, hl, hlen, hf⟩ := DataW.trod_struct ht h
  match xs, hlen with
  | [y0, y1, y2, y3, y4], _ => exact ⟨y0, y1, y2, y3, y4, n, hl, by simpa using hf 0 f0 rfl, by simpa using hf 1 f1 rfl, by simpa using hf 2 f2 rfl, by simpa using hf 3 f3 rfl, by simpa using hf 4 f4 rfl⟩

theorem steps_of {H : Type} {enc : TypeId × Value → H} {W : World} {a : Option Addr} {len cap : Nat} {d : DataW H} {p : List MemPlace} (h : DataW.Trod enc Tryz.prog W 0 (fun _ => true) true 23 (.slice a len cap) d p) :
    ∃ ss : List St, ss.length = len ∧ StepsAt W a ss ∧ (∀ s ∈ ss, s.Ok) ∧ (len = 0 ∨ ∃ elems spare, d = .slice elems spare ∧ elems.length = len) := by
  obtain ⟨fuel, hf⟩ := h
  rcases Go.Deep.open_slice Tryz.underlying23 hf with ⟨h1, _⟩ | ⟨a', len', cap', m, n, D, Pl, h1, _, hl, hm, hmm, hx, hel⟩
  · simp only [Value.cells, List.cons.injEq, Value.slice.injEq, and_true] at h1
    obtain ⟨_, rfl, _⟩ := h1
    exact ⟨[], rfl, Or.inl rfl, fun x hx => (by cases hx), Or.inl rfl⟩
  · simp only [Value.cells, List.cons.injEq, Value.slice.injEq, and_true] at h1
    obtain ⟨rfl, rfl, rfl⟩ := h1
    have hmc : m = cap := by simpa using hmm
    subst hmc
    have hcell : ∀ i, i < len → ∃ s : St, s.Ok ∧ ∀ (j : Nat) (v : Value), s.cells[j]? = some v → W.cell? ((a'.add (i * 5)).add j) = some v := fun i hi => by
      obtain ⟨cs', hc, ht⟩ := hel i (by omega)
      rw [stepCells] at hc
      obtain ⟨y0, y1, y2, y3, y4, n', hlc, t0, t1, t2, t3, t4⟩ := trod_struct5 Tryz.underlying57 ht
      rw [stepCells] at hlc
      match cs', hlc with
      | [c0, c1, c2, c3, c4], _ =>
        obtain ⟨q0, e0, _, h0⟩ := DataW.trod_int Tryz.underlying3 t0
        obtain ⟨q1, e1, _, h1⟩ := DataW.trod_int Tryz.underlying3 t1
        obtain ⟨q2, e2, _, h2⟩ := DataW.trod_int Tryz.underlying3 t2
        obtain ⟨q3, e3, _, h3⟩ := DataW.trod_int Tryz.underlying3 t3
        obtain ⟨q4, e4, _⟩ := DataW.trod_bool Tryz.underlying4 t4
        obtain ⟨_, _, hcc⟩ := World.cells?_some hc
        have e0' : c0 = .int .i64 q0 := by simpa [intCells] using e0
        have e1' : c1 = .int .i64 q1 := by simpa [intCells] using e1
        have e2' : c2 = .int .i64 q2 := by simpa [intCells] using e2
        have e3' : c3 = .int .i64 q3 := by simpa [intCells] using e3
        have e4' : c4 = .bool q4 := by simpa [boolCells] using e4
        subst e0' e1' e2' e3' e4'
        refine ⟨⟨q0, q1, q2, q3, q4⟩, ⟨wfI h0, wfI h1, wfI h2, wfI h3⟩, fun j v hv => ?_⟩
        have hj : j < 5 := by have := (List.getElem?_eq_some_iff.1 hv).1; simpa [St.cells] using this
        have k := hcc j (by omega)
        rw [k]
        rcases (by omega : j = 0 ∨ j = 1 ∨ j = 2 ∨ j = 3 ∨ j = 4) with rfl | rfl | rfl | rfl | rfl <;> (simp [St.cells] at hv ⊢; exact hv)
    obtain ⟨ss, hlen, hss⟩ := exists_list (n := len) (Q := fun i (s : St) => s.Ok ∧ ∀ (j : Nat) (v : Value), s.cells[j]? = some v → W.cell? ((a'.add (i * 5)).add j) = some v) hcell
    have hxd : d = .slice ((List.range len).map D) ((List.range (m - len)).map fun j => D (len + j)) := by simpa using congrArg Prod.fst hx
    refine ⟨ss, hlen, ?_, ?_, Or.inr ⟨_, _, hxd, by simp⟩⟩
    · by_cases h0 : len = 0
      · exact Or.inl (List.eq_nil_of_length_eq_zero (by omega))
      · obtain ⟨b, off, sp⟩ := a'
        have hc0 := (hss 0 (by omega)).2 0 _ rfl
        have hsp : sp = none := by
          have h1 := hc0
          cases sp with
          | none => rfl
          | some x =>
            unfold World.cell? at h1
            simp only [Addr.add] at h1
            split at h1
            · split at h1
              · cases h1
              · rename_i hs
                simp at hs
            · cases h1
        subst hsp
        refine Or.inr ⟨b, off, rfl, ?_, fun k s hs j v hv => ?_⟩
        · have := World.block_lt_of_cell? W _ hc0
          rw [Addr.add_mid, Addr.add_mid] at this
          exact this
        · have hk : k < ss.length := (List.getElem?_eq_some_iff.1 hs).1
          have e : ss[k] = s := (List.getElem?_eq_some_iff.1 hs).2
          have := (hss k hk).2 j v (by rw [e]; exact hv)
          rw [Addr.add_mid, Addr.add_mid] at this
          exact this
    · intro x hx'
      obtain ⟨i, hi, rfl⟩ := List.mem_iff_getElem.1 hx'
      exact (hss i hi).1
end Go.Proofs.YtojpjaifhjigfabGreatDoor
