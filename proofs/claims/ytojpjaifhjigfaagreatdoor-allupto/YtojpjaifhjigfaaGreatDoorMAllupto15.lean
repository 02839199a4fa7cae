/- Steps of the proof (several texts in one): Over, OpenEmpty, Misfit, Ticks, Replies. -/
import Derived.Test.YtojpjaifhjigfaaGreatDoorMAllupto14
import Derived.Test.YtojpjaifhjigfaaGreatDoorMAllupto09
import Derived.Test.YtojpjaifhjigfaaGreatDoorMAllupto02

/- The end of a send, as plain data: settle and play together; the invariant. -/
namespace Go.Proofs.YtojpjaifhjigfaaGreatDoor
open Go.RowKit Go.Maps

/-- The send to a destination is over, and its batch is what that makes of it. -/
def Ag.over (M : Ag) (d : Nat) (good : Bool) (draw : Int) : Ag := (M.settled d good draw).1.played (M.settled d good draw).2
/-- Of the first k destinations each send that took too long is over, one behind the other. -/
def Ag.overs (M : Ag) (draw : Int) : Nat → Ag
  | 0 => M
  | k + 1 => match M.os[k]? with
    | none => M.overs draw k
    | some o => if o.way ≠ -1 ∧ M.c.ti ≤ M.now - o.began then (M.overs draw k).over k false draw else M.overs draw k

theorem played_not0 (M : Ag) {e : Ev} (hk : e.kind ≠ 0) : M.played e = { M with bs := M.bs.modify e.pl (fun b => b.ended e.kind e.f), dead := if e.kind = 3 then M.dead ++ [e.pl] else M.dead } := by
  unfold Ag.played
  rw [if_neg hk]
theorem SetOk.played {M : Ag} {d : Nat} {o : Out} {p : Nat} {b : Bat} {r : Ret} {draw : Int} (h : SetOk M d o p b r draw) {e : Ev} (hk : e.kind ≠ 0) (hne : e.pl ≠ p) : SetOk (M.played e) d o p b r draw := by
  rw [played_not0 M hk]
  refine ⟨h.ho, h.way, ?_, h.hr, h.f0, h.f1, h.r0, h.r1, h.l0, h.l1, h.c, h.p1, h.p2, h.dr, h.n0, h.n1⟩
  show (M.bs.modify e.pl _)[p]? = some b
  rw [List.getElem?_modify]
  simp [hne, h.hb]
theorem settled_played {M : Ag} {d : Nat} {o : Out} {p : Nat} {b : Bat} {r : Ret} {draw : Int} (h : SetOk M d o p b r draw) (good : Bool) {e : Ev} (hk : e.kind ≠ 0) (hne : e.pl ≠ p) :
    (M.played e).settled d good draw = ((M.settled d good draw).1.played e, (M.settled d good draw).2) := by
  rw [settled_eq (h.played hk hne) good, settled_eq h good, played_not0 M hk]
  cases good
  · by_cases hd : M.c.at' ≤ b.fl + 1
    · simp only [Bool.false_eq_true, if_false, if_pos hd]
      rw [played_not0 _ hk]
      rfl
    · simp only [Bool.false_eq_true, if_false, if_neg hd]
      rw [played_not0 _ hk]
      rfl
  · simp only [if_true]
    rw [played_not0 _ hk]
    rfl
theorem settled_plays (d : Nat) (o : Out) (p : Nat) (b : Bat) (r : Ret) (draw : Int) (good : Bool) : ∀ (es : List Ev) (M : Ag), SetOk M d o p b r draw → (∀ e ∈ es, e.kind ≠ 0 ∧ e.pl ≠ p) →
    SetOk (es.foldl Ag.played M) d o p b r draw ∧ (es.foldl Ag.played M).settled d good draw = (es.foldl Ag.played (M.settled d good draw).1, (M.settled d good draw).2)
  | [], M, h, _ => ⟨h, rfl⟩
  | e :: es, M, h, he => by
    obtain ⟨h1, h2⟩ := he e (by simp)
    obtain ⟨i1, i2⟩ := settled_plays d o p b r draw good es (M.played e) (h.played h1 h2) (fun e' he' => he e' (by simp [he']))
    refine ⟨i1, ?_⟩
    rw [List.foldl_cons, i2, settled_played h good h1 h2]
    rfl

/-- What the events of giveUp speak of. -/
structure EvOf (M : Ag) (k : Nat) (e : Ev) (b : Bat) : Prop where
  kd : e.kind = 2 ∨ e.kind = 3
  f : e.f = 1
  at' : M.bs[e.pl]? = some b
  st : b.st = 1
  d : 0 ≤ b.dst ∧ b.dst < k
  f0 : 0 ≤ b.fl
  f1 : b.fl < M.c.at'
theorem settled_ev {M : Ag} {d : Nat} {o : Out} {p : Nat} {b : Bat} {r : Ret} {draw : Int} (h : SetOk M d o p b r draw) : ((M.settled d false draw).2.kind = 2 ∨ (M.settled d false draw).2.kind = 3) ∧ (M.settled d false draw).2.f = 1 ∧ (M.settled d false draw).2.pl = p := by
  rw [settled_eq h false]
  by_cases hd : M.c.at' ≤ b.fl + 1
  · simp [hd, Ev.of]
  · simp [hd, Ev.of]
theorem gaveUp_evs {M : Ag} {draw : Int} (h : GiveOk M draw) : ∀ k, (∀ e ∈ (M.gaveUp draw k).2, ∃ b, EvOf M k e b) ∧ ((M.gaveUp draw k).2.map Ev.pl).Nodup ∧ (M.gaveUp draw k).2.foldl Ag.played (M.gaveUp draw k).1 = M.overs draw k
  | 0 => ⟨fun e he => by simp [Ag.gaveUp] at he, by simp [Ag.gaveUp], rfl⟩
  | k + 1 => by
    obtain ⟨i1, i2, i3⟩ := gaveUp_evs h k
    have i1' : ∀ e ∈ (M.gaveUp draw k).2, ∃ b, EvOf M (k + 1) e b := fun e he => by
      obtain ⟨b, q⟩ := i1 e he
      exact ⟨b, q.kd, q.f, q.at', q.st, ⟨q.d.1, by have := q.d.2; omega⟩, q.f0, q.f1⟩
    unfold Ag.gaveUp Ag.overs
    cases ho : M.os[k]? with
    | none => exact ⟨i1', i2, i3⟩
    | some o =>
      simp only
      by_cases hw : o.way ≠ -1 ∧ M.c.ti ≤ M.now - o.began
      · rw [if_pos hw, if_pos hw]
        obtain ⟨p, b, r, hs, hst, hdst, hb, hfl⟩ := h.set (gaveUp_gave h k) ho hw.1
        obtain ⟨e1, e2, e3⟩ := settled_ev hs
        have hnew : ∀ e ∈ (M.gaveUp draw k).2, e.kind ≠ 0 ∧ e.pl ≠ p := fun e he => by
          obtain ⟨b', q⟩ := i1 e he
          refine ⟨by rcases q.kd with h | h <;> omega, fun e' => ?_⟩
          have := q.at'
          rw [e', hb] at this
          cases this
          have := q.d.2
          omega
        obtain ⟨s1, s2⟩ := settled_plays k o p b r draw false _ _ hs hnew
        refine ⟨fun e he => ?_, ?_, ?_⟩
        · rcases List.mem_append.1 he with h1 | h1
          · exact i1' e h1
          · obtain rfl := List.mem_singleton.1 h1
            exact ⟨b, e1, e2, by rw [e3]; exact hb, hst, ⟨by omega, by omega⟩, hs.f0, hfl⟩
        · rw [List.map_append, List.nodup_append]
          refine ⟨i2, by simp, fun x hx y hy => ?_⟩
          obtain ⟨e, he, rfl⟩ := List.mem_map.1 hx
          have : y = p := by simpa [e3] using hy
          rw [this]
          exact (hnew e he).2
        · rw [List.foldl_append, List.foldl_cons, List.foldl_nil]
          show Ag.played _ _ = ((M.overs draw k).settled k false draw).1.played ((M.overs draw k).settled k false draw).2
          rw [← i3, s2]
      · rw [if_neg hw, if_neg hw]
        exact ⟨i1', i2, i3⟩

theorem plays_ok : ∀ (es : List Ev) (M : Ag), (∀ e ∈ es, (e.kind = 1 ∨ e.kind = 2 ∨ e.kind = 3) ∧ ∃ b, EvOk M e b) → (es.map Ev.pl).Nodup → M.bs.length ≤ 120 → M.dead.length + es.length ≤ 1000 → PlaysOk M es
  | [], _, _, _, _, _ => trivial
  | e :: es, M, h, hn, h120, hd => by
    obtain ⟨hk, b, hb⟩ := h e (by simp)
    have hk0 : e.kind ≠ 0 := by rcases hk with h | h | h <;> omega
    simp only [List.map_cons, List.nodup_cons, List.length_cons] at hn hd
    refine ⟨Or.inr ⟨hk, h120, by omega, b, hb⟩, ?_⟩
    rw [played_not0 M hk0]
    refine plays_ok es _ (fun e' he' => ?_) hn.2 (by simpa using h120) ?_
    · obtain ⟨hk', b', hb'⟩ := h e' (by simp [he'])
      refine ⟨hk', b', ?_, hb'.st, hb'.f0, hb'.f1, hb'.f, hb'.d, hb'.t⟩
      show (M.bs.modify e.pl _)[e'.pl]? = some b'
      have hne : e.pl ≠ e'.pl := fun e'' => hn.1 (by rw [e'']; exact List.mem_map_of_mem he')
      rw [List.getElem?_modify]
      simp [hne, hb'.at']
    · show (if e.kind = 3 then M.dead ++ [e.pl] else M.dead).length + es.length ≤ 1000
      split
      · simp; omega
      · omega
end Go.Proofs.YtojpjaifhjigfaaGreatDoor

/- Open of an empty log. -/
namespace Go.Proofs.YtojpjaifhjigfaaGreatDoor
open Go.RowKit Go.Maps

theorem Sents.Holds.below {w w' : World} {tp : TypeId} {g : List Nat} {n : Nat} {A : Nat → Addr} (h : Sents.Holds w tp g n A) (hb : Below w.heap.size w w') : Sents.Holds w' tp g n A :=
  ⟨fun i hi => by have := World.block_lt_of_cell? w _ (h.cell i hi); rw [hb.cell (p := ⟨g.getD i 0, 0, none⟩) this]; exact h.cell i hi,
   fun i hi => by
    obtain ⟨c, t, hc⟩ := h.block i hi
    exact ⟨c, t, by rw [hb.block _ (Array.getElem?_eq_some_iff.1 hc).1]; exact hc⟩, h.inj⟩
/-- The errors lie where nobody has a label. -/
structure ErrsAt (w : World) (L : Labs) (A : Nat → Addr) : Prop where
  hs : Sents.Holds w 260 gl 11 A
  l1 : ∀ i, i < 11 → L (gl.getD i 0) = none
  l2 : ∀ i, i < 11 → L (A i).block = none
theorem ErrsAt.keep {w w' : World} {L L' : Labs} {A : Nat → Addr} (h : ErrsAt w L A) {p : Lab → Prop} (s : Step p L w L' w') (hp : ¬ p none) : ErrsAt w' L' A := by
  have b1 : ∀ i, i < 11 → gl.getD i 0 < w.heap.size := fun i hi => World.block_lt_of_cell? w _ (h.hs.cell i hi)
  have b2 : ∀ i, i < 11 → (A i).block < w.heap.size := fun i hi => by
    obtain ⟨c, t, hc⟩ := h.hs.block i hi
    exact (Array.getElem?_eq_some_iff.1 hc).1
  refine ⟨⟨fun i hi => ?_, fun i hi => ?_, h.hs.inj⟩, fun i hi => (s.lab _ (b1 i hi)).trans (h.l1 i hi), fun i hi => (s.lab _ (b2 i hi)).trans (h.l2 i hi)⟩
  · rw [World.cell?_of_block (a := ⟨gl.getD i 0, 0, none⟩) (s.block _ (b1 i hi) (by rw [h.l1 i hi]; exact hp))]
    exact h.hs.cell i hi
  · obtain ⟨c, t, hc⟩ := h.hs.block i hi
    exact ⟨c, t, by rw [s.block _ (b2 i hi) (by rw [h.l2 i hi]; exact hp)]; exact hc⟩

theorem open_bad (A : Nat → Addr) (c : Cfg) (m : Option Nat) (D : DataW Unit) (w : World) (hS : Sents.Holds w 260 gl 11 A) (h : MapAt w m D) (hg : ¬ GoodC c D) :
    Calls Tryz.prog 26 #[c.val m, .string ⟨#[]⟩] w fun e w' => e = .returned (.tuple #[.pointer none, ev A 0]) ∧ Below w.heap.size w w' := by
  have H := hide h
  have c0 := hS.cell 0 (by decide)
  simp only [gl, List.getD_cons_zero] at c0
  have hlt0 := World.block_lt_of_cell? w _ c0
  have C0 := hide c0
  clear h hS c0
  go_enter Tryz.func26, Tryz.ntmps26
  go_wp2_with fail
  refine (isConfig_any c m D _ (H.out.alloc _)).mono ?_
  rintro e w1 ⟨r, rfl, hr, hb1⟩
  have hr' : r = false := by cases r with | false => rfl | true => exact absurd (hr.1 rfl) hg
  subst hr'
  clear hr hg
  have hB1 : Below w.heap.size w w1 := ((Below.refl _ _).alloc (Nat.le_refl _) _).trans (hb1.mono (by simp))
  have h0 : w1.cell? ⟨_, 0, none⟩ = some (ev A 0) := (hB1.cell (p := ⟨_, 0, none⟩) hlt0).trans C0.out
  have HB1 := hide hB1
  clear hb1 hB1
  go_wp2_with fail
  go_quiet (fail)
  go_wp2_with fail
  go_ret2
  exact ⟨rfl, below_drewN HB1.out _⟩

/-- What Open of an empty log brings. -/
def Opened (L : Labs) (who : Nat) (c : Cfg) (D : DataW Unit) (w w' : World) (g : Nat) (L' : Labs) (ns : List (List UInt8)) : Prop := AgentAt w' L' who g (Ag.new c D ns) ∧ ns.Perm (strKeys D) ∧ ns.Pairwise (fun x y => x ≤ y) ∧ Below w.heap.size w w' ∧ w.heap.size ≤ g ∧ (∀ k, k < w.heap.size → L' k = L k) ∧ ∀ k, w'.heap.size ≤ k → L' k = none

theorem open_good (L : Labs) (who : Nat) (c : Cfg) (m : Option Nat) (D : DataW Unit) (w : World) (h : MapAt w m D) (hg : GoodC c D) :
    Calls Tryz.prog 26 #[c.val m, .string ⟨#[]⟩] w fun e w' => ∃ g L' ns, e = .returned (.tuple #[.pointer (some ⟨g, 0, none⟩), .nilIface]) ∧ Opened L who c D w w' g L' ns := by
  have H := hide h
  have hd := Cfg.num_d hg.1
  obtain ⟨b, n, rfl, hown⟩ : ∃ b n, m = some b ∧ OM w b n D := by
    rcases h with ⟨_, rfl⟩ | ⟨b, n, h1, h2, _⟩
    · exact absurd hg.2.1.1.1 (by simp [Maps.size])
    · exact ⟨b, n, h1, h2⟩
  have hsz : Maps.size D ≤ 8 := hg.2.1.1.2
  have HO := hide hown
  have HG := hide hg
  clear h hown hg
  go_enter Tryz.func26, Tryz.ntmps26
  go_wp2_with fail
  refine (isConfig_any c (some b) D _ (H.out.alloc _)).mono ?_
  rintro e w1 ⟨r, rfl, hr, hb1⟩
  obtain rfl : r = true := hr.2 HG.out
  clear hr
  have hB1 : Below w.heap.size w w1 := ((Below.refl _ _).alloc (Nat.le_refl _) _).trans (hb1.mono (by simp))
  have Hb1 := hide hb1
  have HB1 := hide hB1
  obtain ⟨hc1, _⟩ := bcell hb1
  simp only [World.size_alloc] at hc1
  clear hb1 hB1
  go_wp2_with fail
  refine (newAgent_any c b n D _ hd.1 hd.2 (om_below (HO.out.alloc _) Hb1.out (HO.out.alloc _).lt) hsz).mono ?_
  rintro e w2 ⟨g, bq, bm, cn, go, nv, ns, fs, rfl, hN⟩
  have HN := hide hN
  clear hN hc1
  go_wp2_with fail
  refine (replay_empty g c.ba _ _ HN.out.blk rfl rfl rfl rfl).mono ?_
  rintro e w3 ⟨gr, rfl, hgr, hK, hr, ho, hb3⟩
  have HA : Hid (Opened L who c D w w3 g (newLabs L w1.heap.size w3 who bq fs) ns) := by
    have h1 : w.heap.size ≤ w1.heap.size := HB1.out.size
    have h2 := HN.out.bg
    refine ⟨agentAt_new L who HN.out hgr (by rw [HN.out.pm.length_eq, size_strKeys HO.out]) hK hr ho, HN.out.pm, HN.out.so, (HB1.out.trans (HN.out.bw.mono h1)).trans (hb3.mono (by omega)), by omega, fun k hk => newLabs_old _ _ _ _ _ _ k (by omega), fun k hk => newLabs_none (by have := HN.out.bw.size; have := hb3.size; omega) hk⟩
  clear hgr hK hr ho hb3
  go_wp2_with fail
  go_ret2
  exact ⟨g, _, ns, rfl, HA.out⟩
end Go.Proofs.YtojpjaifhjigfaaGreatDoor

/- hasDestination, misfit, refusal: why a batch is not taken. -/
namespace Go.Proofs.YtojpjaifhjigfaaGreatDoor
open Go.RowKit Go.Maps

/-- An error by the number that the document gives it. -/
def errV (A : Nat → Addr) : Nat → Value
  | 0 => .nilIface
  | k + 1 => ev A k
def destB (M : Ag) (d : Int) : Bool := decide (0 ≤ d) && decide (d < M.c.d)
/-- Why a batch could not be taken by an agent with nothing pending (0: it could). -/
def Ag.misfit (M : Ag) (b : Bat) : Nat :=
  if destB M b.dst = false then 3 else if Maps.has M.D (.string b.ten) = false then 4 else if inB b.id.length 1 16 = false then 5 else if 63 < b.body.length then 6 else if findId M.bs b.id ≠ -1 then 7 else if 120 ≤ M.bs.length then 8 else 0
/-- Why a batch is refused. -/
def Ag.refusal (M : Ag) (b : Bat) : Nat := if M.misfit b ≠ 0 then M.misfit b else if M.c.q ≤ waits M.bs b.ten then 9 else 0

set_option maxHeartbeats 400000 in
theorem hasDest_any (L : Labs) (who g : Nat) (M : Ag) (d : Int) (w : World) (h : AgentAt w L who g M) : Calls Tryz.prog 71 #[.pointer (some ⟨g, 0, none⟩), .int .i64 d] w fun e w' => e = .returned (.bool (destB M d)) ∧ w' = w := by
  have c4 : w.cell? ⟨g, 4, none⟩ = some (.int .i64 M.c.d) := by obtain ⟨bq, bm, cn, tv, dv, nv, rv, ov, h⟩ := h; exact h.blk.1.cell 4
  clear h
  unfold destB
  by_cases h0 : 0 ≤ d
  · go_enter Tryz.func71, Tryz.ntmps71
    go_wp2
    go_ret
    simp [h0]
  · go_enter Tryz.func71, Tryz.ntmps71
    go_wp2
    go_ret
    simp
    omega

set_option maxRecDepth 100000 in
set_option maxHeartbeats 2000000 in
theorem misfit_any (A : Nat → Addr) (L : Labs) (who g : Nat) (M : Ag) (b : Bat) (w : World) (hS : Sents.Holds w 260 gl 11 A) (h : AgentAt w L who g M) (hb : M.bs.length ≤ 120) (ht : b.ten.length ≤ maxLen) :
    Calls Tryz.prog 108 #[.pointer (some ⟨g, 0, none⟩), batVal b] w fun e w' => e = .returned (errV A (M.misfit b)) ∧ Below w.heap.size w w' := by
  have HA := hide h
  have HS := hide hS
  obtain ⟨bq, bm, cn, tv, dv, nv, rv, ov, h⟩ := h
  have c5 : w.cell? ⟨g, 5, none⟩ = some (.map (some bm)) := h.blk.1.cell 5
  have hgl := h.blk.1.lt
  have hlook : ∀ w' : World, Below w.heap.size w w' → ∃ v, (Instr.lookup 22 (.map (some bm)) (encStr b.ten) true).run Tryz.prog w' = .ok (.tuple #[v, .bool (Maps.has M.D (.string b.ten))]) w' := fun w' hb' => by
    obtain ⟨v, ps, h1, _⟩ := (ownsMap_of_block h.cm.1 (hb'.block bm h.cm.1.lt)).look_ok lawS Tryz.underlying22 (zeroInt w') (plainElem_int Tryz.underlying3 (by decide)) (keyStr ht)
    exact ⟨v, h1⟩
  obtain ⟨v0, hl0⟩ := hlook ((w.alloc (.cells #[.int .i64 b.dst, encStr b.ten, encStr b.id, encStr b.body] 45)).drew) (((Below.refl _ _).alloc (Nat.le_refl _) _).drew)
  clear h hS hlook
  unfold batVal
  go_enter Tryz.func108, Tryz.ntmps108
  go_upto_region 1 with fail
  go_cut [6] (fun s6 wx => s6 = .bool (Maps.has M.D (.string b.ten)) ∧ wx = (w.alloc (.cells #[.int .i64 b.dst, encStr b.ten, encStr b.id, encStr b.body] 45)).drew)
  case first =>
    go_region
    all_goals (go_wp2_with fail; go_meet; exact ⟨rfl, rfl⟩)
  case rest =>
  obtain ⟨rfl, rfl⟩ := hcut
  clear hl0
  go_wp2_with fail
  generalize hV : World.drew (World.alloc (World.alloc w _) _) = V
  have hBV : Below w.heap.size w V := by rw [← hV]; exact (((Below.refl _ _).alloc (Nat.le_refl _) _).alloc (by simp) _).drew
  have hNV : Blk V w.heap.size #[.int .i64 b.dst, encStr b.ten, encStr b.id, encStr b.body] 45 := by rw [← hV]; exact (Blk.new w _ _).alloc _
  have hMV : Blk V (w.heap.size + 1) #[.int .i64 b.id.length, .int .i64 1, .int .i64 16] 130 := by rw [← hV]; exact Blk.made (by simp) _ _
  have hAV := HA.out.keep (Step.of_below (p := fun _ => False) (L := L) hBV) (fun _ h => h)
  have m0 : V.cell? ⟨w.heap.size + 1, 0, none⟩ = some (.int .i64 b.id.length) := hMV.cell 0
  have m1 : V.cell? ⟨w.heap.size + 1, 1, none⟩ = some (.int .i64 1) := hMV.cell 1
  have m2 : V.cell? ⟨w.heap.size + 1, 2, none⟩ = some (.int .i64 16) := hMV.cell 2
  have q2 := (HS.out.below hBV).cell 2 (by decide)
  have q3 := (HS.out.below hBV).cell 3 (by decide)
  simp only [gl, List.getD_cons_zero, List.getD_cons_succ] at q2 q3
  have HAV := hide hAV
  have HNV := hide hNV
  have HBV := hide hBV
  clear hV hAV hNV hBV hMV c5
  refine (hasDest_any L who g M b.dst V HAV.out).mono ?_
  rintro e w' ⟨rfl, rfl⟩
  cases hd : destB M b.dst
  · go_wp2_with fail
    go_ret
    exact ⟨by simp [Ag.misfit, hd, errV, ev], HBV.out⟩
  · cases hh : Maps.has M.D (.string b.ten)
    · go_wp2_with fail
      go_ret
      exact ⟨by simp [Ag.misfit, hd, hh, errV, ev], HBV.out⟩
    · clear q2 q3
      go_wp2_with fail
      refine (holds_any b.id.length 1 16 _).mono ?_
      rintro e w2 ⟨rfl, hb2⟩
      have hB2 : Below w.heap.size w w2 := HBV.out.trans (hb2.mono HBV.out.size)
      have q4 := (HS.out.below hB2).cell 4 (by decide)
      have q5 := (HS.out.below hB2).cell 5 (by decide)
      simp only [gl, List.getD_cons_zero, List.getD_cons_succ] at q4 q5
      have hN2 : Blk w2 w.heap.size #[.int .i64 b.dst, encStr b.ten, encStr b.id, encStr b.body] 45 := HNV.out.below hb2 HNV.out.lt
      have n2 : w2.cell? ⟨w.heap.size, 2, none⟩ = some (encStr b.id) := hN2.cell 2
      have n3 : w2.cell? ⟨w.heap.size, 3, none⟩ = some (encStr b.body) := hN2.cell 3
      have HB2 := hide hB2
      have HN2 := hide hN2
      have hlt2 := hN2.lt
      clear hb2 hB2 hN2 m0 m1 m2
      cases hi : inB b.id.length 1 16
      · go_wp2_with fail
        go_ret
        exact ⟨by simp [Ag.misfit, hd, hh, hi, errV, ev], HB2.out⟩
      · by_cases h6 : 63 < b.body.length
        · have h6I : (63 : Int) < (b.body.length : Int) := by omega
          go_wp2_with fail
          go_ret
          exact ⟨by simp [Ag.misfit, hd, hh, hi, h6, errV, ev], HB2.out⟩
        · have h6I : ¬ (63 : Int) < (b.body.length : Int) := by omega
          clear q4 q5
          have HP : Hid (∀ w1 : World, Below w.heap.size w w1 → Calls Tryz.prog 75 #[.pointer (some ⟨g, 0, none⟩), encStr b.id] w1 fun e w' => e = .returned (.int .i64 (findId M.bs b.id)) ∧ Below w1.heap.size w1 w') := fun w1 h1 => pPlace_any L who g M b.id w1 (HA.out.keep (Step.of_below (p := fun _ => False) (L := L) h1) (fun _ h => h)) hb
          generalize hf : findId M.bs b.id = f at *
          have Hf := hide hf
          by_cases h7 : f = -1
          · subst h7
            obtain ⟨k, hk⟩ : ∃ k : Nat, k = M.bs.length := ⟨_, rfl⟩
            have Hk := hide hk
            clear hf
            go_wp2_with fail
            go_region_with ((go_at_call 75; refine (HP.out _ (by exact HB2.out.drew)).mono ?_; rintro e w3 ⟨rfl, hb3⟩; have hB3 : Below w.heap.size w w3 := HB2.out.drew.trans (hb3.mono HB2.out.size); have HB3 := hide hB3; have HS3 := hide (HS.out.below hB3); have HA3 := hide (HA.out.keep (Step.of_below (p := fun _ => False) (L := L) hB3) (fun _ h => h)); clear hb3 hB3))
            all_goals
              have q7 := HS3.out.cell 7 (by decide)
              simp only [gl, List.getD_cons_zero, List.getD_cons_succ] at q7
              obtain ⟨bq', bm', cn', tv', dv', nv', rv', ov', h3⟩ := HA3.out
              obtain ⟨ta, tc, rfl, _⟩ := h3.tk.shape
              have z0 : w3.cell? ⟨g, 0, none⟩ = some (.slice ta M.bs.length tc) := h3.blk.1.cell 0
              clear h3
              by_cases h8 : 120 ≤ M.bs.length
              · have h8I : (120 : Int) ≤ (M.bs.length : Int) := by omega
                go_wp2_with fail
                go_ret
                exact ⟨by simp [Ag.misfit, hd, hh, hi, h6, Hf.out, h8, errV, ev], HB3.out⟩
              · have h8I : ¬ (120 : Int) ≤ (M.bs.length : Int) := by omega
                go_wp2_with fail
                go_ret
                exact ⟨by simp [Ag.misfit, hd, hh, hi, h6, Hf.out, h8, errV], HB3.out⟩
          · clear hf
            go_wp2_with fail
            go_region_with ((go_at_call 75; refine (HP.out _ (by exact HB2.out.drew)).mono ?_; rintro e w3 ⟨rfl, hb3⟩; have hB3 : Below w.heap.size w w3 := HB2.out.drew.trans (hb3.mono HB2.out.size); have HB3 := hide hB3; have HS3 := hide (HS.out.below hB3); have HA3 := hide (HA.out.keep (Step.of_below (p := fun _ => False) (L := L) hB3) (fun _ h => h)); clear hb3 hB3))
            all_goals
              have q6 := HS3.out.cell 6 (by decide)
              simp only [gl, List.getD_cons_zero, List.getD_cons_succ] at q6
              go_wp2_with fail
              go_ret
              exact ⟨by simp [Ag.misfit, hd, hh, hi, h6, Hf.out, h7, errV, ev], HB3.out⟩
end Go.Proofs.YtojpjaifhjigfaaGreatDoor

/- Tick, Reply: the program's calls. -/
namespace Go.Proofs.YtojpjaifhjigfaaGreatDoor
open Go.RowKit Go.Maps

def Ag.later (M : Ag) (ms : Int) : Ag := { M with now := M.now + ms }
/-- The agent behind the time-outs. -/
def Ag.timed (M : Ag) (draw : Int) : Ag := (M.gaveUp draw M.os.length).1.recorded (M.gaveUp draw M.os.length).2
/-- What Tick makes of an agent, and what it sends. -/
def Ag.ticked (M : Ag) (ms draw : Int) : Ag × List Sd := ((M.later ms).timed draw).sentOut ((M.later ms).timed draw).os.length
/-- What Reply makes of an agent. -/
def Ag.replied (M : Ag) (d : Nat) (good : Bool) (draw : Int) : Ag := (M.settled d good draw).1.recorded [(M.settled d good draw).2]

theorem agCells_set16 (bq bm : Nat) (tv dv nv rv ov : Value) (M : Ag) (ms : Int) : (agCells bq bm tv dv nv rv ov M).setIfInBounds 16 (.int .i64 (M.now + ms)) = agCells bq bm tv dv nv rv ov (M.later ms) := by
  apply Array.ext'
  rw [Array.toList_setIfInBounds]
  rfl
theorem later_step {w : World} {L : Labs} {who g : Nat} {M : Ag} (h : AgentAt w L who g M) (ms : Int) : AgentAt (w.setCell ⟨g, 16, none⟩ (.int .i64 (M.now + ms))) L who g (M.later ms) ∧ Step (ofP who) L w L (w.setCell ⟨g, 16, none⟩ (.int .i64 (M.now + ms))) := by
  obtain ⟨bq, bm, cn, tv, dv, nv, rv, ov, h⟩ := h
  have s : Step (fun q => q = some (who, .ag)) L w L (w.setCell ⟨g, 16, none⟩ (.int .i64 (M.now + ms))) := Step.setCell _ _ _ _ h.blk.2
  refine ⟨⟨bq, bm, cn, tv, dv, nv, rv, ov, ⟨?_, h.blk.2⟩, h.tk.keep s (by simp), h.qs.keep s (by simp) (by simp), h.dd.keep s (by simp), h.nm.keep s (by simp), h.rt.keep s (by simp), h.ol.keep s (by simp) (by simp) (by simp), h.cm.keep s (by simp)⟩, s.mono (fun l h => ⟨_, h⟩)⟩
  rw [← agCells_set16]
  exact h.blk.1.set 16 _

set_option maxRecDepth 100000 in
set_option maxHeartbeats 1000000 in
theorem tick_bad (A : Nat → Addr) (g : Nat) (ms draw : Int) (w : World) (hS : Sents.Holds w 260 gl 11 A) (hbad : inB ms 0 60000 = false ∨ draw < 0) :
    Calls Tryz.prog 30 #[.pointer (some ⟨g, 0, none⟩), .int .i64 ms, .int .i64 draw] w fun e w' => e = .returned (.tuple #[.slice none 0 0, ev A 9]) ∧ Below w.heap.size w w' := by
  have HS := hide hS
  have HH := hide (fun V => holds_any ms 0 60000 V)
  clear hS
  cases hin : inB ms 0 60000
  · rw [hin] at HH
    clear hin hbad
    go_enter Tryz.func30, Tryz.ntmps30
    go_wp2_with fail
    refine (HH.out _).mono ?_
    rintro e w1 ⟨rfl, hb1⟩
    have hB1 : Below w.heap.size w w1 := ((Below.refl _ _).alloc (Nat.le_refl _) _).trans (hb1.mono (by simp))
    have hc := (HS.out.below hB1).cell 9 (by decide)
    simp only [gl, List.getD_cons_zero, List.getD_cons_succ] at hc
    have HB1 := hide hB1
    clear hb1 hB1
    go_wp2_with fail
    go_quiet (fail)
    go_wp2_with fail
    go_ret2
    exact ⟨rfl, below_drewN HB1.out _⟩
  · rw [hin] at HH
    have hd : draw < 0 := by
      rcases hbad with h | h
      · rw [hin] at h; cases h
      · exact h
    clear hin hbad
    go_enter Tryz.func30, Tryz.ntmps30
    go_wp2_with fail
    refine (HH.out _).mono ?_
    rintro e w1 ⟨rfl, hb1⟩
    have hB1 : Below w.heap.size w w1 := ((Below.refl _ _).alloc (Nat.le_refl _) _).trans (hb1.mono (by simp))
    have hc := (HS.out.below hB1).cell 9 (by decide)
    simp only [gl, List.getD_cons_zero, List.getD_cons_succ] at hc
    have HB1 := hide hB1
    clear hb1 hB1
    go_wp2_with fail
    go_quiet (fail)
    go_wp2_with fail
    go_ret2
    exact ⟨rfl, below_drewN HB1.out _⟩

/-- What Tick leaves: sends in memory that nobody else has, and the agent. -/
def TickedTo (w : World) (L : Labs) (who g : Nat) (x : Ag × List Sd) (e : Ending) (w' : World) : Prop := ∃ v L' l', e = .returned (.tuple #[v, .nilIface]) ∧ RowAt w' L' l' 68 4 v x.2.length (x.2.flatMap Sd.cells) ∧ ¬ ofP who l' ∧ (∀ k, k < w.heap.size → L k ≠ l') ∧ AgentAt w' L' who g x.1 ∧ Step (ofP who) L w L' w'

/-- What Tick wants. -/
structure TickOk (M : Ag) (draw : Int) : Prop where
  g : GiveOk M draw
  bs : M.bs.length ≤ 120
  ten : ∀ b ∈ M.bs, b.ten.length ≤ 16
  dl : M.dead.length ≤ 120
  lg : M.log.length ≤ 800000000000000
  so : SendOk (M.timed draw)
  de : ∀ (d : Nat) (o : Out), (M.timed draw).os[d]? = some o → DestOk (M.timed draw) o

theorem TickOk.plays {M : Ag} {draw : Int} (h : TickOk M draw) : PlaysOk (M.gaveUp draw M.os.length).1 (M.gaveUp draw M.os.length).2 ∧ (∀ e ∈ (M.gaveUp draw M.os.length).2, e.Tell) := by
  obtain ⟨h1, h2, _⟩ := gaveUp_evs h.g M.os.length
  have hg := gaveUp_gave h.g M.os.length
  have hl := gaveUp_len (M := M) (draw := draw) M.os.length
  have ho4 := h.g.o4
  have hat := h.g.c.at'
  refine ⟨plays_ok _ _ (fun e he => ?_) h2 (by rw [hg.bs]; exact h.bs) (by rw [hg.dead]; have := h.dl; omega), fun e he => ?_⟩
  · obtain ⟨b, q⟩ := h1 e he
    refine ⟨by rcases q.kd with e | e <;> omega, b, by rw [hg.bs]; exact q.at', q.st, q.f0, by have := q.f1; omega, by rw [q.f]; omega, ⟨q.d.1, by have := q.d.2; omega⟩, h.ten b (List.mem_of_getElem? q.at')⟩
  · obtain ⟨b, q⟩ := h1 e he
    have hp := (List.getElem?_eq_some_iff.1 q.at').1
    have := h.bs
    exact Or.inr ⟨by rcases q.kd with e | e <;> omega, by rcases q.kd with e | e <;> omega, by omega, by rw [q.f]; omega⟩

set_option maxRecDepth 100000 in
set_option maxHeartbeats 2000000 in
theorem tick_good (L : Labs) (who g : Nat) (M : Ag) (ms draw : Int) (w : World) (hA : AgentAt w L who g M) (hin : inB ms 0 60000 = true) (hd : 0 ≤ draw) (hn0 : 0 ≤ M.now) (hn1 : M.now ≤ 900000000000000000) (h : TickOk (M.later ms) draw) :
    Calls Tryz.prog 30 #[.pointer (some ⟨g, 0, none⟩), .int .i64 ms, .int .i64 draw] w fun e w' => TickedTo w L who g (M.ticked ms draw) e w' := by
  have hms : 0 ≤ ms ∧ ms ≤ 60000 := by simpa [inB] using hin
  have HH := hide (fun V => holds_any ms 0 60000 V)
  rw [hin] at HH
  obtain ⟨M1, hM1⟩ : ∃ M1, M.later ms = M1 := ⟨_, rfl⟩
  obtain ⟨x1, hx1⟩ : ∃ x, M1.gaveUp draw M1.os.length = x := ⟨_, rfl⟩
  obtain ⟨hpl, htl⟩ := h.plays
  have hlen := gaveUp_len (M := M.later ms) (draw := draw) (M.later ms).os.length
  have ho4 := h.g.o4
  have hlog := (gaveUp_gave h.g (M.later ms).os.length).log
  have hlg := h.lg
  have HTk : Hid (M.ticked ms draw = (x1.1.recorded x1.2).sentOut (x1.1.recorded x1.2).os.length) := by
    show _ = _
    unfold Ag.ticked Ag.timed
    rw [hM1, hx1]
  have hso := h.so
  have hde := h.de
  unfold Ag.timed at hso hde
  rw [hM1] at hpl htl hlen ho4 hlog hlg hso hde
  rw [hx1] at hpl htl hlen hlog hso hde
  have HG : Hid (∀ W L0 l, AgentAt W L0 who g M1 → ¬ ofP who l → (∀ k, k < W.heap.size → L0 k ≠ l) → Calls Tryz.prog 69 #[.pointer (some ⟨g, 0, none⟩), .int .i64 draw] W fun e w' => GaveUp W L0 l who g x1 e w') := fun W L0 l hW hl hf => by
    have := giveUp_any L0 l who g M1 draw W hl hf hW (by rw [← hM1]; exact h.g)
    rw [hx1] at this
    exact this
  have HR : Hid (∀ W L0 l v, AgentAt W L0 who g x1.1 → ¬ ofP who l → RowAt W L0 l 151 7 v x1.2.length (x1.2.flatMap Ev.cells) → Calls Tryz.prog 68 #[.pointer (some ⟨g, 0, none⟩), v] W fun r w' => r = .returned (.tuple #[]) ∧ Turned W L0 who g (x1.1.recorded x1.2) w') := fun W L0 l v hW hl hr =>
    record_any L0 l who g v x1.1 x1.2 W hW hl hr hpl htl (by omega) (by rw [hlog]; omega)
  have HSO : Hid (∀ W L0 l, AgentAt W L0 who g (x1.1.recorded x1.2) → ¬ ofP who l → (∀ k, k < W.heap.size → L0 k ≠ l) → Calls Tryz.prog 70 #[.pointer (some ⟨g, 0, none⟩)] W fun e w' => SentAll W L0 l who g ((x1.1.recorded x1.2).sentOut (x1.1.recorded x1.2).os.length) e w') := fun W L0 l hW hl hf => sendOut_any L0 l who g _ W hl hf hW hso hde
  have HA := hide hA
  have HM1 := hide hM1
  clear hA hpl htl hlen ho4 hlog hlg hso hde h hM1 hx1 hin
  go_enter Tryz.func30, Tryz.ntmps30
  go_wp2_with fail
  refine (HH.out _).mono ?_
  rintro e w1 ⟨rfl, hb1⟩
  have hB1 : Below w.heap.size w w1 := ((Below.refl _ _).alloc (Nat.le_refl _) _).trans (hb1.mono (by simp))
  have hA1 := HA.out.keep (Step.of_below (p := fun _ => False) hB1) (fun _ h => h)
  have c16 : w1.cell? ⟨g, 16, none⟩ = some (.int .i64 M.now) := by obtain ⟨bq, bm, cn, tv, dv, nv, rv, ov, h⟩ := hA1; exact h.blk.1.cell 16
  have f16 : w1.frozen? ⟨g, 16, none⟩ = false := agent_frozen hA1 16
  obtain ⟨hA2, hS2⟩ := later_step hA1 ms
  rw [HM1.out] at hA2
  have HA2 := hide hA2
  have HS2 : Hid (Step (ofP who) L w L (w1.setCell ⟨g, 16, none⟩ (.int .i64 (M.now + ms)))) := (Step.of_below hB1).trans hS2
  obtain ⟨N, hN⟩ := fresh_owner L (w1.setCell ⟨g, 16, none⟩ (.int .i64 (M.now + ms))).heap.size
  have hev1 : ¬ ofP who (some (N + who + 1, Part.ag)) := not_ofP (by omega) _
  have hev2 : ∀ k, k < (w1.setCell ⟨g, 16, none⟩ (.int .i64 (M.now + ms))).heap.size → L k ≠ some (N + who + 1, Part.ag) := fun k hk e => by have := hN k hk _ _ e; omega
  have Hev1 := hide hev1
  have Hev2 := hide hev2
  clear hb1 hB1 hA1 hA2 hS2 hN hev1 hev2
  go_upto_region 5 with fail
  generalize hV : World.setCell w1 _ _ = V at *
  clear hV
  go_cut [] (fun wx => ∃ L3, AgentAt wx L3 who g (x1.1.recorded x1.2) ∧ Step (ofP who) L w L3 wx)
  case first =>
    go_region_with (first
      | (go_at_call 69; refine (HG.out _ L _ (by first | exact HA2.out | exact HA2.out.keep (Step.drew (p := fun _ => False) L _) (fun _ h => h)) Hev1.out (by exact Hev2.out)).mono ?_; rintro e w3 ⟨v3, L3, rfl, hr3, hA3, hS3⟩; have Hr3 := hide hr3; have HA3 := hide hA3; have HS3 := hide hS3; clear hr3 hA3 hS3)
      | (go_at_call 68; refine (HR.out _ L3 _ v3 HA3.out Hev1.out Hr3.out).mono ?_; rintro e w4 ⟨rfl, L4, hA4, hS4⟩; have HA4 := hide hA4; have HS4 := hide hS4; clear hA4 hS4))
    all_goals
      go_wp2_with fail
      go_meet
      exact ⟨L4, HA4.out, (HS2.out.trans ((Step.drew L _).trans HS3.out)).trans HS4.out⟩
  case rest =>
  obtain ⟨L3, hA3, hS3⟩ := hcut
  generalize hwc : wc = X at *
  have HA3 := hide hA3
  have HS3 := hide hS3
  obtain ⟨N2, hN2⟩ := fresh_owner L3 X.heap.size
  have hse1 : ¬ ofP who (some (N2 + who + 1, Part.ag)) := not_ofP (by omega) _
  have hse2 : ∀ k, k < X.heap.size → L3 k ≠ some (N2 + who + 1, Part.ag) := fun k hk e => by have := hN2 k hk _ _ e; omega
  have HSo := hide (HSO.out X L3 _ hA3 hse1 hse2)
  have Hse1 := hide hse1
  have Hse2 := hide hse2
  clear hwc hA3 hS3 hN2 hse1 hse2
  go_wp2_with fail
  refine HSo.out.mono ?_
  rintro e w5 ⟨v5, L5, rfl, hr5, hA5, hS5⟩
  have Hr5 := hide hr5
  have HA5 := hide hA5
  have HS5 := hide hS5
  clear hr5 hA5 hS5
  go_wp2_with fail
  go_ret2
  rw [HTk.out]
  exact ⟨v5, L5, _, rfl, Hr5.out, Hse1.out, fun k hk e => Hse2.out k (Nat.lt_of_lt_of_le hk HS3.out.size) (by rw [HS3.out.lab k hk]; exact e), HA5.out, HS3.out.trans HS5.out⟩
end Go.Proofs.YtojpjaifhjigfaaGreatDoor

/- Reply: the program's call. -/
namespace Go.Proofs.YtojpjaifhjigfaaGreatDoor
open Go.RowKit Go.Maps

set_option maxRecDepth 100000 in
set_option maxHeartbeats 1000000 in
theorem reply_dest (A : Nat → Addr) (L : Labs) (who g : Nat) (M : Ag) (d try' : Int) (good : Bool) (draw : Int) (w : World) (hS : Sents.Holds w 260 gl 11 A) (hA : AgentAt w L who g M) (hd : destB M d = false) :
    Calls Tryz.prog 31 #[.pointer (some ⟨g, 0, none⟩), .int .i64 d, .int .i64 try', .bool good, .int .i64 draw] w fun e w' => e = .returned (ev A 2) ∧ Below w.heap.size w w' := by
  have HD := hide (hasDest_any L who g M d w hA)
  rw [hd] at HD
  have hc := hS.cell 2 (by decide)
  simp only [gl, List.getD_cons_zero, List.getD_cons_succ] at hc
  clear hS hA hd
  go_enter Tryz.func31, Tryz.ntmps31
  go_wp2_with fail
  refine HD.out.mono ?_
  rintro e w1 ⟨rfl, rfl⟩
  go_wp2_with fail
  go_ret
  exact ⟨rfl, Below.refl _ _⟩
set_option maxRecDepth 100000 in
set_option maxHeartbeats 1000000 in
theorem reply_range (A : Nat → Addr) (L : Labs) (who g : Nat) (M : Ag) (d try' : Int) (good : Bool) (draw : Int) (w : World) (hS : Sents.Holds w 260 gl 11 A) (hA : AgentAt w L who g M) (hd : destB M d = true) (hdr : draw < 0) :
    Calls Tryz.prog 31 #[.pointer (some ⟨g, 0, none⟩), .int .i64 d, .int .i64 try', .bool good, .int .i64 draw] w fun e w' => e = .returned (ev A 9) ∧ Below w.heap.size w w' := by
  have HD := hide (hasDest_any L who g M d w hA)
  rw [hd] at HD
  have hc := hS.cell 9 (by decide)
  simp only [gl, List.getD_cons_zero, List.getD_cons_succ] at hc
  clear hS hA hd
  go_enter Tryz.func31, Tryz.ntmps31
  go_wp2_with fail
  refine HD.out.mono ?_
  rintro e w1 ⟨rfl, rfl⟩
  go_wp2_with fail
  go_ret
  exact ⟨rfl, Below.refl _ _⟩
set_option maxRecDepth 100000 in
set_option maxHeartbeats 1000000 in
theorem reply_stale (A : Nat → Addr) (L : Labs) (who g d : Nat) (M : Ag) (o : Out) (try' : Int) (good : Bool) (draw : Int) (w : World) (hS : Sents.Holds w 260 gl 11 A) (hA : AgentAt w L who g M) (hd : destB M d = true) (hdr : 0 ≤ draw) (ho : M.os[d]? = some o) (hst : ((o.way != -1) && (o.sends == try')) = false) :
    Calls Tryz.prog 31 #[.pointer (some ⟨g, 0, none⟩), .int .i64 d, .int .i64 try', .bool good, .int .i64 draw] w fun e w' => e = .returned (ev A 10) ∧ Below w.heap.size w w' := by
  have HD := hide (hasDest_any L who g M d w hA)
  rw [hd] at HD
  have HS := hide hS
  obtain ⟨bq, bm, cn, tv, dv, nv, rv, ov, h⟩ := hA
  obtain ⟨go, ok, rfl, hF⟩ := h.focus ho
  obtain ⟨g2, ca, ck, hC⟩ := hF.cells
  have hdI : (d : Int) < (M.os.length : Int) := by have := (List.getElem?_eq_some_iff.1 ho).1; omega
  have c18 : w.cell? ⟨g, 18, none⟩ = some (.slice (some ⟨go, 0, none⟩) M.os.length ok) := h.blk.1.cell 18
  have HU := hide (isUnderWay_any go (d * 10) o.way o.sends try' w hC.c8 hC.c7)
  rw [hst] at HU
  clear hS h hF hC hd ho hst
  go_enter Tryz.func31, Tryz.ntmps31
  go_wp2_with fail
  refine HD.out.mono ?_
  rintro e w1 ⟨rfl, rfl⟩
  go_wp2_with fail
  refine HU.out.mono ?_
  rintro e w2 ⟨rfl, hb⟩
  have hc := (HS.out.below hb).cell 10 (by decide)
  simp only [gl, List.getD_cons_zero, List.getD_cons_succ] at hc
  have Hb := hide hb
  clear hb
  go_wp2_with fail
  go_ret
  exact ⟨rfl, Hb.out⟩

/-- One event in a new block. -/
theorem row_one (w : World) (L : Labs) (e : Ev) : RowAt (w.alloc (.cells e.cells.toArray 151)) (clip L w.heap.size) none 151 7 (.slice (some ⟨w.heap.size, 0, none⟩) 1 1) 1 e.cells := by
  refine ⟨⟨rfl, Or.inr ⟨_, _, _, rfl, Nat.zero_le _, obj_new rfl _, Nat.le_refl _, by unfold maxLen; omega, by simp [Ev.cells_length], ?_⟩⟩, fun q hq => ?_⟩
  · rw [List.take_of_length_le (by simp [Ev.cells_length])]
  · obtain rfl : w.heap.size = q := by simpa [Value.ownBlock] using hq
    exact clip_none L (Nat.le_refl _)

set_option maxRecDepth 100000 in
set_option maxHeartbeats 2000000 in
theorem reply_good (L : Labs) (who g d p : Nat) (M : Ag) (o : Out) (b : Bat) (r : Ret) (try' : Int) (good : Bool) (draw : Int) (w : World) (hA : AgentAt w L who g M) (hd : destB M d = true) (hs : SetOk M d o p b r draw) (htr : o.sends = try') (hst : b.st = 1) (hdst : 0 ≤ b.dst ∧ b.dst < 4) (hten : b.ten.length ≤ 16) (h120 : M.bs.length ≤ 120) (hdl : M.dead.length ≤ 120) (hlg : M.log.length ≤ 800000000000000) :
    Calls Tryz.prog 31 #[.pointer (some ⟨g, 0, none⟩), .int .i64 d, .int .i64 try', .bool good, .int .i64 draw] w fun e w' => e = .returned .nilIface ∧ Turned w L who g (M.replied d good draw) w' := by
  have HD := hide (hasDest_any L who g M d w hA)
  rw [hd] at HD
  have HA := hide hA
  have hdr := hs.dr
  obtain ⟨bq, bm, cn, tv, dv, nv, rv, ov, h⟩ := hA
  obtain ⟨go, ok, rfl, hF⟩ := h.focus hs.ho
  obtain ⟨g2, ca, ck, hC⟩ := hF.cells
  have hdI : (d : Int) < (M.os.length : Int) := by have := (List.getElem?_eq_some_iff.1 hs.ho).1; omega
  have c18 : w.cell? ⟨g, 18, none⟩ = some (.slice (some ⟨go, 0, none⟩) M.os.length ok) := h.blk.1.cell 18
  have HU := hide (isUnderWay_any go (d * 10) o.way o.sends try' w hC.c8 hC.c7)
  have hb1 : ((o.way != -1) && (o.sends == try')) = true := by rw [hs.way, htr]; simp
  rw [hb1] at HU
  have HSet := hide (fun W hW => settle_any L who g d p M o b r good draw W hW hs)
  have hg := settled_gave hs good
  have hpl := (List.getElem?_eq_some_iff.1 hs.hb).1
  obtain ⟨x, hx⟩ : ∃ x, M.settled d good draw = x := ⟨_, rfl⟩
  have hev : (x.2.kind = 1 ∨ x.2.kind = 2 ∨ x.2.kind = 3) ∧ x.2.pl = p ∧ x.2.f ≤ 1 := by
    rw [← hx, settled_eq hs good]
    split
    · simp [Ev.of]
    split <;> simp [Ev.of]
  rw [hx] at hg HSet
  have hok : PlaysOk x.1 [x.2] := plays_ok [x.2] x.1 (fun e he => by
    obtain rfl := List.mem_singleton.1 he
    exact ⟨hev.1, b, by rw [hg.bs, hev.2.1]; exact hs.hb, hst, hs.f0, hs.f1, by omega, hdst, hten⟩) (by simp) (by rw [hg.bs]; exact h120) (by rw [hg.dead]; simp; omega)
  have HR : Hid (∀ w2 L2, AgentAt w2 L2 who g x.1 → Calls Tryz.prog 68 #[.pointer (some ⟨g, 0, none⟩), .slice (some ⟨w2.heap.size, 0, none⟩) 1 1] (w2.alloc (.cells x.2.cells.toArray 151)) fun r w' => r = .returned (.tuple #[]) ∧ Turned w2 L2 who g (x.1.recorded [x.2]) w') := fun w2 L2 h2 => by
    have s0 : Step (fun _ => False) L2 w2 (clip L2 w2.heap.size) (w2.alloc (.cells x.2.cells.toArray 151)) := (Step.clipped L2 w2).trans (Step.alloc _ w2 _)
    refine (record_any (clip L2 w2.heap.size) none who g _ x.1 [x.2] _ (h2.keep s0 (fun _ h => h)) (by rintro ⟨q, hq⟩; cases hq) (by simpa using row_one w2 L2 x.2) hok (fun e he => ?_) (by simp) (by rw [hg.log]; omega)).mono ?_
    · obtain rfl := List.mem_singleton.1 he
      exact Or.inr ⟨by rcases hev.1 with h | h | h <;> omega, by rcases hev.1 with h | h | h <;> omega, by omega, by omega⟩
    · rintro r w' ⟨rfl, L3, a1, a2⟩
      exact ⟨rfl, L3, a1, ((Step.clipped L2 w2).trans (Step.alloc _ w2 _)).trans a2⟩
  have HRp : Hid (M.replied d good draw = x.1.recorded [x.2]) := by show _ = _; unfold Ag.replied; rw [hx]
  unfold Ev.val at HSet
  have hcells : x.2.cells.toArray = #[.int .i64 x.2.kind, .int .i64 x.2.b.dst, encStr x.2.b.ten, encStr x.2.b.id, encStr x.2.b.body, .int .i64 x.2.pl, .int .i64 x.2.f] := rfl
  rw [hcells] at HR
  clear h hF hC hd hs hb1 hg hev hok hcells hx hst hten hdst hlg
  go_enter Tryz.func31, Tryz.ntmps31
  go_wp2_with fail
  refine HD.out.mono ?_
  rintro e w1 ⟨rfl, hw1⟩
  subst hw1
  go_wp2_with fail
  refine HU.out.mono ?_
  rintro e w2 ⟨rfl, hb⟩
  have HA2 := hide (HA.out.keep (Step.of_below (p := fun _ => False) hb) (fun _ h => h))
  have Hb := hide hb
  clear hb c18
  go_wp2_with fail
  go_region_with (first
    | (go_at_call 73; refine (HSet.out _ (by first | exact HA2.out | exact HA2.out.keep (Step.drew (p := fun _ => False) L _) (fun _ h => h))).mono ?_; rintro e w3 ⟨rfl, L3, hA3, hS3⟩; have HA3 := hide hA3; have HS3 := hide hS3; clear hA3 hS3)
    | (go_at_call 68; refine (HR.out w3 L3 HA3.out).mono ?_; rintro e w4 ⟨rfl, L4, hA4, hS4⟩; have HA4 := hide hA4; have HS4 := hide hS4; clear hA4 hS4))
  all_goals
    go_wp2_with fail
    go_ret
    rw [HRp.out]
    exact ⟨rfl, L4, HA4.out, ((Step.of_below Hb.out).trans ((Step.drew L _).trans HS3.out)).trans HS4.out⟩
end Go.Proofs.YtojpjaifhjigfaaGreatDoor
