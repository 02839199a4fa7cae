/- Steps of the proof (several texts in one): OpenEmpty, Misfit, Submit, CanBe, Heads. -/
import Derived.Test.YtojpjaifhjigfabGreatDoorMTwo06
import Derived.Test.YtojpjaifhjigfabGreatDoorMTwo10

/- Open of an empty log. -/
namespace Go.Proofs.YtojpjaifhjigfabGreatDoor
open Go.RowKit Go.Maps

theorem Sents.Holds.below {w w' : World} {tp : TypeId} {g : List Nat} {n : Nat} {A : Nat → Addr} (h : Sents.Holds w tp g n A) (hb : Below w.heap.size w w') : Sents.Holds w' tp g n A :=
  ⟨fun i hi => by have := World.block_lt_of_cell? w _ (h.cell i hi); rw [hb.cell (p := ⟨g.getD i 0, 0, none⟩) this]; exact h.cell i hi,
   fun i hi => by
    obtain ⟨c, t, hc⟩ := h.block i hi
    exact ⟨c, t, by rw [hb.block _ (Array.getElem?_eq_some_iff.1 hc).1]; exact hc⟩, h.inj⟩
/-- The errors lie where nobody has a label. -/
structure ErrsAt (w : World) (L : Labs) (A : Nat → Addr) : Prop where
  hs : Sents.Holds w 197 gl 11 A
  l1 : ∀ i, i < 11 → L (gl.getD i 0) = none
  l2 : ∀ i, i < 11 → L (A i).block = none
theorem ErrsAt.keep {w w' : World} {L L' : Labs} {A : Nat → Addr} (h : ErrsAt w L A) {p : Lab → Prop} (s : Step p L w L' w') (hp : ¬ p none) : ErrsAt w' L' A := by
  have b1 : ∀ i, i < 11 → gl.getD i 0 < w.heap.size := fun i hi => World.block_lt_of_cell? w _ (h.hs.cell i hi)
  have b2 : ∀ i, i < 11 → (A i).block < w.heap.size := fun i hi => by
    obtain ⟨c, t, hc⟩ := h.hs.block i hi
    exact (Array.getElem?_eq_some_iff.1 hc).1
  refine ⟨⟨fun i hi => ?_, fun i hi => ?_, h.hs.inj⟩, fun i hi => (s.lab _ (b1 i hi)).trans (h.l1 i hi), fun i hi => (s.lab _ (b2 i hi)).trans (h.l2 i hi)⟩
  · rw [World.cell?_of_block (a := ⟨gl.getD i 0, 0, none⟩) (s.block _ (b1 i hi) (by rw [h.l1 i hi]; exact hp))]
    exact h.hs.cell i hi
  · obtain ⟨c, t, hc⟩ := h.hs.block i hi
    exact ⟨c, t, by rw [s.block _ (b2 i hi) (by rw [h.l2 i hi]; exact hp)]; exact hc⟩

theorem open_bad (A : Nat → Addr) (c : Cfg) (m : Option Nat) (D : DataW Unit) (w : World) (hS : Sents.Holds w 197 gl 11 A) (h : MapAt w m D) (hg : ¬ GoodC c D) :
    Calls Tryz.prog 10 #[c.val m, .string ⟨#[]⟩] w fun e w' => e = .returned (.tuple #[.pointer none, ev A 0]) ∧ Below w.heap.size w w' := by
  have H := hide h
  have c0 := hS.cell 0 (by decide)
  simp only [gl, List.getD_cons_zero] at c0
  have hlt0 := World.block_lt_of_cell? w _ c0
  have C0 := hide c0
  clear h hS c0
  go_enter Tryz.func10, Tryz.ntmps10
  go_wp2_with fail
  refine (isConfig_any c m D _ (H.out.alloc _)).mono ?_
  rintro e w1 ⟨r, rfl, hr, hb1⟩
  have hr' : r = false := by cases r with | false => rfl | true => exact absurd (hr.1 rfl) hg
  subst hr'
  clear hr hg
  have hB1 : Below w.heap.size w w1 := ((Below.refl _ _).alloc (Nat.le_refl _) _).trans (hb1.mono (by simp))
  have h0 : w1.cell? ⟨_, 0, none⟩ = some (ev A 0) := (hB1.cell (p := ⟨_, 0, none⟩) hlt0).trans C0.out
  have HB1 := hide hB1
  clear hb1 hB1
  go_wp2_with fail
  go_quiet (fail)
  go_wp2_with fail
  go_ret2
  exact ⟨rfl, below_drewN HB1.out _⟩

/-- What Open of an empty log brings. -/
def Opened (L : Labs) (who : Nat) (c : Cfg) (D : DataW Unit) (w w' : World) (g : Nat) (L' : Labs) (ns : List (List UInt8)) : Prop := AgentAt w' L' who g (Ag.new c D ns) ∧ ns.Perm (strKeys D) ∧ ns.Pairwise (fun x y => x ≤ y) ∧ Below w.heap.size w w' ∧ w.heap.size ≤ g ∧ (∀ k, k < w.heap.size → L' k = L k) ∧ ∀ k, w'.heap.size ≤ k → L' k = none

theorem open_good (L : Labs) (who : Nat) (c : Cfg) (m : Option Nat) (D : DataW Unit) (w : World) (h : MapAt w m D) (hg : GoodC c D) :
    Calls Tryz.prog 10 #[c.val m, .string ⟨#[]⟩] w fun e w' => ∃ g L' ns, e = .returned (.tuple #[.pointer (some ⟨g, 0, none⟩), .nilIface]) ∧ Opened L who c D w w' g L' ns := by
  have H := hide h
  have hd := Cfg.num_d hg.1
  obtain ⟨b, n, rfl, hown⟩ : ∃ b n, m = some b ∧ OM w b n D := by
    rcases h with ⟨_, rfl⟩ | ⟨b, n, h1, h2, _⟩
    · exact absurd hg.2.1.1.1 (by simp [Maps.size])
    · exact ⟨b, n, h1, h2⟩
  have hsz : Maps.size D ≤ 8 := hg.2.1.1.2
  have HO := hide hown
  have HG := hide hg
  clear h hown hg
  go_enter Tryz.func10, Tryz.ntmps10
  go_wp2_with fail
  refine (isConfig_any c (some b) D _ (H.out.alloc _)).mono ?_
  rintro e w1 ⟨r, rfl, hr, hb1⟩
  obtain rfl : r = true := hr.2 HG.out
  clear hr
  have hB1 : Below w.heap.size w w1 := ((Below.refl _ _).alloc (Nat.le_refl _) _).trans (hb1.mono (by simp))
  have Hb1 := hide hb1
  have HB1 := hide hB1
  obtain ⟨hc1, _⟩ := bcell hb1
  simp only [World.size_alloc] at hc1
  clear hb1 hB1
  go_wp2_with fail
  refine (newAgent_any c b n D _ hd.1 hd.2 (om_below (HO.out.alloc _) Hb1.out (HO.out.alloc _).lt) hsz).mono ?_
  rintro e w2 ⟨g, bq, bm, cn, go, nv, ns, fs, rfl, hN⟩
  have HN := hide hN
  clear hN hc1
  go_wp2_with fail
  refine (replay_empty g c.ba _ _ HN.out.blk rfl rfl rfl rfl).mono ?_
  rintro e w3 ⟨gr, rfl, hgr, hK, hr, ho, hb3⟩
  have HA : Hid (Opened L who c D w w3 g (newLabs L w1.heap.size w3 who bq fs) ns) := by
    have h1 : w.heap.size ≤ w1.heap.size := HB1.out.size
    have h2 := HN.out.bg
    refine ⟨agentAt_new L who HN.out hgr (by rw [HN.out.pm.length_eq, size_strKeys HO.out]) hK hr ho, HN.out.pm, HN.out.so, (HB1.out.trans (HN.out.bw.mono h1)).trans (hb3.mono (by omega)), by omega, fun k hk => newLabs_old _ _ _ _ _ _ k (by omega), fun k hk => newLabs_none (by have := HN.out.bw.size; have := hb3.size; omega) hk⟩
  clear hgr hK hr ho hb3
  go_wp2_with fail
  go_ret2
  exact ⟨g, _, ns, rfl, HA.out⟩
end Go.Proofs.YtojpjaifhjigfabGreatDoor

/- hasDestination, misfit, refusal: why a batch is not taken. -/
namespace Go.Proofs.YtojpjaifhjigfabGreatDoor
open Go.RowKit Go.Maps

/-- An error by the number that the document gives it. -/
def errV (A : Nat → Addr) : Nat → Value
  | 0 => .nilIface
  | k + 1 => ev A k
def destB (M : Ag) (d : Int) : Bool := decide (0 ≤ d) && decide (d < M.c.d)
/-- Why a batch could not be taken by an agent with nothing pending (0: it could). -/
def Ag.misfit (M : Ag) (b : Bat) : Nat :=
  if destB M b.dst = false then 3 else if Maps.has M.D (.string b.ten) = false then 4 else if inB b.id.length 1 16 = false then 5 else if 63 < b.body.length then 6 else if findId M.bs b.id ≠ -1 then 7 else if 120 ≤ M.bs.length then 8 else 0
/-- Why a batch is refused. -/
def Ag.refusal (M : Ag) (b : Bat) : Nat := if M.misfit b ≠ 0 then M.misfit b else if M.c.q ≤ waits M.bs b.ten then 9 else 0

set_option maxHeartbeats 400000 in
theorem hasDest_any (L : Labs) (who g : Nat) (M : Ag) (d : Int) (w : World) (h : AgentAt w L who g M) : Calls Tryz.prog 74 #[.pointer (some ⟨g, 0, none⟩), .int .i64 d] w fun e w' => e = .returned (.bool (destB M d)) ∧ w' = w := by
  have c4 : w.cell? ⟨g, 4, none⟩ = some (.int .i64 M.c.d) := by obtain ⟨bq, bm, cn, tv, dv, nv, rv, ov, h⟩ := h; exact h.blk.1.cell 4
  clear h
  unfold destB
  by_cases h0 : 0 ≤ d
  · go_enter Tryz.func74, Tryz.ntmps74
    go_wp2
    go_ret
    simp [h0]
  · go_enter Tryz.func74, Tryz.ntmps74
    go_wp2
    go_ret
    simp
    omega

set_option maxRecDepth 100000 in
set_option maxHeartbeats 2000000 in
theorem misfit_any (A : Nat → Addr) (L : Labs) (who g : Nat) (M : Ag) (b : Bat) (w : World) (hS : Sents.Holds w 197 gl 11 A) (h : AgentAt w L who g M) (hb : M.bs.length ≤ 120) (ht : b.ten.length ≤ maxLen) :
    Calls Tryz.prog 82 #[.pointer (some ⟨g, 0, none⟩), batVal b] w fun e w' => e = .returned (errV A (M.misfit b)) ∧ Below w.heap.size w w' := by
  have HA := hide h
  have HS := hide hS
  obtain ⟨bq, bm, cn, tv, dv, nv, rv, ov, h⟩ := h
  have c5 : w.cell? ⟨g, 5, none⟩ = some (.map (some bm)) := h.blk.1.cell 5
  have hgl := h.blk.1.lt
  have hlook : ∀ w' : World, Below w.heap.size w w' → ∃ v, (Instr.lookup 27 (.map (some bm)) (encStr b.ten) true).run Tryz.prog w' = .ok (.tuple #[v, .bool (Maps.has M.D (.string b.ten))]) w' := fun w' hb' => by
    obtain ⟨v, ps, h1, _⟩ := (ownsMap_of_block h.cm.1 (hb'.block bm h.cm.1.lt)).look_ok lawS Tryz.underlying27 (zeroInt w') (plainElem_int Tryz.underlying3 (by decide)) (keyStr ht)
    exact ⟨v, h1⟩
  obtain ⟨v0, hl0⟩ := hlook ((w.alloc (.cells #[.int .i64 b.dst, encStr b.ten, encStr b.id, encStr b.body] 48)).drew) (((Below.refl _ _).alloc (Nat.le_refl _) _).drew)
  clear h hS hlook
  unfold batVal
  go_enter Tryz.func82, Tryz.ntmps82
  go_upto_region 1 with fail
  go_cut [6] (fun s6 wx => s6 = .bool (Maps.has M.D (.string b.ten)) ∧ wx = (w.alloc (.cells #[.int .i64 b.dst, encStr b.ten, encStr b.id, encStr b.body] 48)).drew)
  case first =>
    go_region
    all_goals (go_wp2_with fail; go_meet; exact ⟨rfl, rfl⟩)
  case rest =>
  obtain ⟨rfl, rfl⟩ := hcut
  clear hl0
  go_wp2_with fail
  generalize hV : World.drew (World.alloc (World.alloc w _) _) = V
  have hBV : Below w.heap.size w V := by rw [← hV]; exact (((Below.refl _ _).alloc (Nat.le_refl _) _).alloc (by simp) _).drew
  have hNV : Blk V w.heap.size #[.int .i64 b.dst, encStr b.ten, encStr b.id, encStr b.body] 48 := by rw [← hV]; exact (Blk.new w _ _).alloc _
  have hMV : Blk V (w.heap.size + 1) #[.int .i64 b.id.length, .int .i64 1, .int .i64 16] 119 := by rw [← hV]; exact Blk.made (by simp) _ _
  have hAV := HA.out.keep (Step.of_below (p := fun _ => False) (L := L) hBV) (fun _ h => h)
  have m0 : V.cell? ⟨w.heap.size + 1, 0, none⟩ = some (.int .i64 b.id.length) := hMV.cell 0
  have m1 : V.cell? ⟨w.heap.size + 1, 1, none⟩ = some (.int .i64 1) := hMV.cell 1
  have m2 : V.cell? ⟨w.heap.size + 1, 2, none⟩ = some (.int .i64 16) := hMV.cell 2
  have q2 := (HS.out.below hBV).cell 2 (by decide)
  have q3 := (HS.out.below hBV).cell 3 (by decide)
  simp only [gl, List.getD_cons_zero, List.getD_cons_succ] at q2 q3
  have HAV := hide hAV
  have HNV := hide hNV
  have HBV := hide hBV
  clear hV hAV hNV hBV hMV c5
  refine (hasDest_any L who g M b.dst V HAV.out).mono ?_
  rintro e w' ⟨rfl, rfl⟩
  cases hd : destB M b.dst
  · go_wp2_with fail
    go_ret
    exact ⟨by simp [Ag.misfit, hd, errV, ev], HBV.out⟩
  · cases hh : Maps.has M.D (.string b.ten)
    · go_wp2_with fail
      go_ret
      exact ⟨by simp [Ag.misfit, hd, hh, errV, ev], HBV.out⟩
    · clear q2 q3
      go_wp2_with fail
      refine (holds_any b.id.length 1 16 _).mono ?_
      rintro e w2 ⟨rfl, hb2⟩
      have hB2 : Below w.heap.size w w2 := HBV.out.trans (hb2.mono HBV.out.size)
      have q4 := (HS.out.below hB2).cell 4 (by decide)
      have q5 := (HS.out.below hB2).cell 5 (by decide)
      simp only [gl, List.getD_cons_zero, List.getD_cons_succ] at q4 q5
      have hN2 : Blk w2 w.heap.size #[.int .i64 b.dst, encStr b.ten, encStr b.id, encStr b.body] 48 := HNV.out.below hb2 HNV.out.lt
      have n2 : w2.cell? ⟨w.heap.size, 2, none⟩ = some (encStr b.id) := hN2.cell 2
      have n3 : w2.cell? ⟨w.heap.size, 3, none⟩ = some (encStr b.body) := hN2.cell 3
      have HB2 := hide hB2
      have HN2 := hide hN2
      have hlt2 := hN2.lt
      clear hb2 hB2 hN2 m0 m1 m2
      cases hi : inB b.id.length 1 16
      · go_wp2_with fail
        go_ret
        exact ⟨by simp [Ag.misfit, hd, hh, hi, errV, ev], HB2.out⟩
      · by_cases h6 : 63 < b.body.length
        · have h6I : (63 : Int) < (b.body.length : Int) := by omega
          go_wp2_with fail
          go_ret
          exact ⟨by simp [Ag.misfit, hd, hh, hi, h6, errV, ev], HB2.out⟩
        · have h6I : ¬ (63 : Int) < (b.body.length : Int) := by omega
          clear q4 q5
          have HP : Hid (∀ w1 : World, Below w.heap.size w w1 → Calls Tryz.prog 22 #[.pointer (some ⟨g, 0, none⟩), encStr b.id] w1 fun e w' => e = .returned (.int .i64 (findId M.bs b.id)) ∧ Below w1.heap.size w1 w') := fun w1 h1 => pPlace_any L who g M b.id w1 (HA.out.keep (Step.of_below (p := fun _ => False) (L := L) h1) (fun _ h => h)) hb
          generalize hf : findId M.bs b.id = f at *
          have Hf := hide hf
          by_cases h7 : f = -1
          · subst h7
            obtain ⟨k, hk⟩ : ∃ k : Nat, k = M.bs.length := ⟨_, rfl⟩
            have Hk := hide hk
            clear hf
            go_wp2_with fail
            go_region_with ((go_at_call 22; refine (HP.out _ (by exact HB2.out.drew)).mono ?_; rintro e w3 ⟨rfl, hb3⟩; have hB3 : Below w.heap.size w w3 := HB2.out.drew.trans (hb3.mono HB2.out.size); have HB3 := hide hB3; have HS3 := hide (HS.out.below hB3); have HA3 := hide (HA.out.keep (Step.of_below (p := fun _ => False) (L := L) hB3) (fun _ h => h)); clear hb3 hB3))
            all_goals
              have q7 := HS3.out.cell 7 (by decide)
              simp only [gl, List.getD_cons_zero, List.getD_cons_succ] at q7
              obtain ⟨bq', bm', cn', tv', dv', nv', rv', ov', h3⟩ := HA3.out
              obtain ⟨ta, tc, rfl, _⟩ := h3.tk.shape
              have z0 : w3.cell? ⟨g, 0, none⟩ = some (.slice ta M.bs.length tc) := h3.blk.1.cell 0
              clear h3
              by_cases h8 : 120 ≤ M.bs.length
              · have h8I : (120 : Int) ≤ (M.bs.length : Int) := by omega
                go_wp2_with fail
                go_ret
                exact ⟨by simp [Ag.misfit, hd, hh, hi, h6, Hf.out, h8, errV, ev], HB3.out⟩
              · have h8I : ¬ (120 : Int) ≤ (M.bs.length : Int) := by omega
                go_wp2_with fail
                go_ret
                exact ⟨by simp [Ag.misfit, hd, hh, hi, h6, Hf.out, h8, errV], HB3.out⟩
          · clear hf
            go_wp2_with fail
            go_region_with ((go_at_call 22; refine (HP.out _ (by exact HB2.out.drew)).mono ?_; rintro e w3 ⟨rfl, hb3⟩; have hB3 : Below w.heap.size w w3 := HB2.out.drew.trans (hb3.mono HB2.out.size); have HB3 := hide hB3; have HS3 := hide (HS.out.below hB3); have HA3 := hide (HA.out.keep (Step.of_below (p := fun _ => False) (L := L) hB3) (fun _ h => h)); clear hb3 hB3))
            all_goals
              have q6 := HS3.out.cell 6 (by decide)
              simp only [gl, List.getD_cons_zero, List.getD_cons_succ] at q6
              go_wp2_with fail
              go_ret
              exact ⟨by simp [Ag.misfit, hd, hh, hi, h6, Hf.out, h7, errV, ev], HB3.out⟩
end Go.Proofs.YtojpjaifhjigfabGreatDoor

/- refusal, Submit: the program's side. -/
namespace Go.Proofs.YtojpjaifhjigfabGreatDoor
open Go.RowKit Go.Maps

theorem errV_pos (A : Nat → Addr) {n : Nat} (h : n ≠ 0) : ∃ k, n = k + 1 ∧ errV A n = ev A k := by
  obtain ⟨k, rfl⟩ := Nat.exists_eq_succ_of_ne_zero h
  exact ⟨k, rfl, rfl⟩

set_option maxRecDepth 100000 in
set_option maxHeartbeats 2000000 in
theorem refusal_any (A : Nat → Addr) (L : Labs) (who g : Nat) (M : Ag) (b : Bat) (w : World) (hS : Sents.Holds w 197 gl 11 A) (h : AgentAt w L who g M) (hb : M.bs.length ≤ 120) (ht : b.ten.length ≤ maxLen) :
    Calls Tryz.prog 68 #[.pointer (some ⟨g, 0, none⟩), batVal b] w fun e w' => e = .returned (errV A (M.refusal b)) ∧ Below w.heap.size w w' := by
  have HM : Hid (∀ w1, Below w.heap.size w w1 → Calls Tryz.prog 82 #[.pointer (some ⟨g, 0, none⟩), batVal b] w1 fun e w' => e = .returned (errV A (M.misfit b)) ∧ Below w1.heap.size w1 w') := fun w1 h1 => misfit_any A L who g M b w1 (hS.below h1) (h.keep (Step.of_below (p := fun _ => False) (L := L) h1) (fun _ h => h)) hb ht
  have HW : Hid (∀ w1, Below w.heap.size w w1 → Calls Tryz.prog 87 #[.pointer (some ⟨g, 0, none⟩)] w1 fun e w' => NewCounts w1 w' (waits M.bs) e) := fun w1 h1 => pWaiting_any L who g M w1 (h.keep (Step.of_below (p := fun _ => False) (L := L) h1) (fun _ h => h)) hb
  have HS := hide hS
  have c6 : w.cell? ⟨g, 6, none⟩ = some (.int .i64 M.c.q) := by obtain ⟨bq, bm, cn, tv, dv, nv, rv, ov, h⟩ := h; exact h.blk.1.cell 6
  have hgl : g < w.heap.size := World.block_lt_of_cell? w _ c6
  have hkS := keyStr ht
  have HKS := hide hkS
  have hB0 := fun o => (Below.refl w.heap.size w).alloc (Nat.le_refl _) o
  have hB00 := hide hB0
  unfold batVal at *
  clear h hS hkS hB0
  go_enter Tryz.func68, Tryz.ntmps68
  go_wp2_with fail
  refine (HM.out _ (hB00.out _)).mono ?_
  rintro e w1 ⟨rfl, hb1⟩
  have hB1 : Below w.heap.size w w1 := (hB00.out _).trans (hb1.mono (by simp))
  have hN1 : Blk w1 w.heap.size #[.int .i64 b.dst, encStr b.ten, encStr b.id, encStr b.body] 48 := (Blk.new w _ _).below hb1 (by simp)
  have n1 : w1.cell? ⟨w.heap.size, 1, none⟩ = some (encStr b.ten) := hN1.cell 1
  have d6 : w1.cell? ⟨g, 6, none⟩ = some (.int .i64 M.c.q) := (hB1.cell (p := ⟨g, 6, none⟩) hgl).trans c6
  have q8 := (HS.out.below hB1).cell 8 (by decide)
  simp only [gl, List.getD_cons_zero, List.getD_cons_succ] at q8
  have hgl1 : g < w1.heap.size := Nat.lt_of_lt_of_le hgl hB1.size
  have hnl := hN1.lt
  have HB1 := hide hB1
  have HN1 := hide hN1
  clear hb1 hB1 hN1 c6 hgl
  by_cases hm : M.misfit b = 0
  · have HM0 := hide hm
    rw [hm]
    simp only [errV]
    clear hm
    by_cases h9 : M.c.q ≤ (waits M.bs b.ten : Int)
    · have H9 := hide h9
      go_wp2_with fail
      go_region_with ((go_at_call 87; refine (HW.out _ (by exact HB1.out.drew)).mono ?_; rintro e w2 ⟨bw, nw, D, rfl, hbw, hO, hnw, hC, hb2⟩; have hB2 := HB1.out.drew.trans (hb2.mono HB1.out.size); have n1' : w2.cell? ⟨w.heap.size, 1, none⟩ = some (encStr b.ten) := (hb2.cell (p := ⟨w.heap.size, 1, none⟩) hnl).trans n1; have d6' : w2.cell? ⟨g, 6, none⟩ = some (.int .i64 M.c.q) := (hb2.cell (p := ⟨g, 6, none⟩) hgl1).trans d6; obtain ⟨c, hlk, hat, _⟩ := World.ownsMap.lookup_int hO lawS Tryz.underlying27 Tryz.underlying3 (zeroInt _) HKS.out; obtain rfl := hC.look ht hat; have HB2 := hide hB2; have HS2 := hide (HS.out.below hB2); clear hbw hO hnw hC hb2 hB2 hat))
      all_goals
        have q8' := HS2.out.cell 8 (by decide)
        simp only [gl, List.getD_cons_zero, List.getD_cons_succ] at q8'
        go_wp2_with fail
        go_ret
        exact ⟨by simp [Ag.refusal, HM0.out, if_pos H9.out, errV, ev], HB2.out⟩
    · have H9 := hide h9
      go_wp2_with fail
      go_region_with ((go_at_call 87; refine (HW.out _ (by exact HB1.out.drew)).mono ?_; rintro e w2 ⟨bw, nw, D, rfl, hbw, hO, hnw, hC, hb2⟩; have hB2 := HB1.out.drew.trans (hb2.mono HB1.out.size); have n1' : w2.cell? ⟨w.heap.size, 1, none⟩ = some (encStr b.ten) := (hb2.cell (p := ⟨w.heap.size, 1, none⟩) hnl).trans n1; have d6' : w2.cell? ⟨g, 6, none⟩ = some (.int .i64 M.c.q) := (hb2.cell (p := ⟨g, 6, none⟩) hgl1).trans d6; obtain ⟨c, hlk, hat, _⟩ := World.ownsMap.lookup_int hO lawS Tryz.underlying27 Tryz.underlying3 (zeroInt _) HKS.out; obtain rfl := hC.look ht hat; have HB2 := hide hB2; have HS2 := hide (HS.out.below hB2); clear hbw hO hnw hC hb2 hB2 hat))
      all_goals
        go_wp2_with fail
        go_ret
        exact ⟨by simp [Ag.refusal, HM0.out, if_neg (Int.not_le.2 H9.out), errV], HB2.out⟩
  · obtain ⟨k, hk, hv⟩ := errV_pos A hm
    rw [hv]
    have Hk := hide hk
    clear hv hm hk
    unfold ev
    go_wp2_with fail
    go_ret
    exact ⟨by simp [Ag.refusal, Hk.out, errV, ev], HB1.out⟩

/-- An agent behind a Submit. -/
def Ag.submitted (M : Ag) (b : Bat) : Ag := if M.refusal b = 0 then M.taken b else M

theorem refusal_zero {M : Ag} {b : Bat} (h : M.refusal b = 0) : destB M b.dst = true ∧ Maps.has M.D (.string b.ten) = true ∧ inB b.id.length 1 16 = true ∧ b.body.length ≤ 63 ∧ findId M.bs b.id = -1 ∧ M.bs.length < 120 ∧ (waits M.bs b.ten : Int) < M.c.q := by
  unfold Ag.refusal at h
  by_cases h1 : M.misfit b = 0
  · rw [if_neg (by simpa using h1)] at h
    have h9 : (waits M.bs b.ten : Int) < M.c.q := by
      by_cases h9 : M.c.q ≤ (waits M.bs b.ten : Int)
      · rw [if_pos h9] at h; cases h
      · omega
    unfold Ag.misfit at h1
    by_cases a1 : destB M b.dst = false
    · rw [if_pos a1] at h1; cases h1
    rw [if_neg a1] at h1
    by_cases a2 : Maps.has M.D (.string b.ten) = false
    · rw [if_pos a2] at h1; cases h1
    rw [if_neg a2] at h1
    by_cases a3 : inB b.id.length 1 16 = false
    · rw [if_pos a3] at h1; cases h1
    rw [if_neg a3] at h1
    by_cases a4 : 63 < b.body.length
    · rw [if_pos a4] at h1; cases h1
    rw [if_neg a4] at h1
    by_cases a5 : findId M.bs b.id ≠ -1
    · rw [if_pos a5] at h1; cases h1
    rw [if_neg a5] at h1
    by_cases a6 : 120 ≤ M.bs.length
    · rw [if_pos a6] at h1; cases h1
    exact ⟨by simpa using a1, by simpa using a2, by simpa using a3, by omega, by simpa using a5, by omega, h9⟩
  · rw [if_pos h1] at h
    exact absurd h h1

set_option maxRecDepth 100000 in
set_option maxHeartbeats 2000000 in
theorem submit_any (A : Nat → Addr) (L : Labs) (who g : Nat) (M : Ag) (b : Bat) (w : World) (hS : Sents.Holds w 197 gl 11 A) (h : AgentAt w L who g M) (hb : M.bs.length ≤ 120) (ht : b.ten.length ≤ maxLen) (hd4 : M.c.d ≤ 4) (hn16 : ∀ x, Maps.has M.D (.string x) = true → x.length ≤ 16) (hlg : M.log.length ≤ 900000000000000) (hrt : M.rt.length ≤ 120) :
    Calls Tryz.prog 47 #[.pointer (some ⟨g, 0, none⟩), batVal b] w fun e w' => e = .returned (errV A (M.refusal b)) ∧ Turned w L who g (M.submitted b) w' := by
  have hB0 := fun o => (Below.refl w.heap.size w).alloc (Nat.le_refl _) o
  have HR : Hid (∀ w1, Below w.heap.size w w1 → Calls Tryz.prog 68 #[.pointer (some ⟨g, 0, none⟩), batVal b] w1 fun e w' => e = .returned (errV A (M.refusal b)) ∧ Below w1.heap.size w1 w') := fun w1 h1 => refusal_any A L who g M b w1 (hS.below h1) (h.keep (Step.of_below (p := fun _ => False) (L := L) h1) (fun _ h => h)) hb ht
  have HA := hide h
  have hB00 := hide hB0
  unfold batVal at *
  clear h hS hB0
  go_enter Tryz.func47, Tryz.ntmps47
  go_wp2_with fail
  refine (HR.out _ (hB00.out _)).mono ?_
  rintro e w1 ⟨rfl, hb1⟩
  have hB1 : Below w.heap.size w w1 := (hB00.out _).trans (hb1.mono (by simp))
  have hN1 : Blk w1 w.heap.size #[.int .i64 b.dst, encStr b.ten, encStr b.id, encStr b.body] 48 := (Blk.new w _ _).below hb1 (by simp)
  have n0 : w1.cell? ⟨w.heap.size, 0, none⟩ = some (.int .i64 b.dst) := hN1.cell 0
  have n1 : w1.cell? ⟨w.heap.size, 1, none⟩ = some (encStr b.ten) := hN1.cell 1
  have n2 : w1.cell? ⟨w.heap.size, 2, none⟩ = some (encStr b.id) := hN1.cell 2
  have n3 : w1.cell? ⟨w.heap.size, 3, none⟩ = some (encStr b.body) := hN1.cell 3
  have hnl := hN1.lt
  have HB1 := hide hB1
  clear hb1 hB1 hN1
  by_cases hr : M.refusal b = 0
  · obtain ⟨r1, r2, r3, r4, r5, r6, r7⟩ := refusal_zero hr
    have hdd : 0 ≤ b.dst ∧ b.dst < 4 := by simp [destB] at r1; omega
    have hid : b.id.length ≤ 16 := by simp [inB] at r3; omega
    have HAd := hide (admit_any L who g M b w1 (HA.out.keep (Step.of_below (p := fun _ => False) (L := L) HB1.out) (fun _ h => h)) r6 hdd (hn16 _ r2) hid r4 hlg hrt)
    have HE : Hid (M.submitted b = M.taken b) := if_pos hr
    have HR0 := hide hr
    rw [hr]
    simp only [errV]
    unfold batVal at HAd
    clear r1 r2 r3 r4 r5 r6 r7 hr
    go_wp2_with fail
    refine HAd.out.mono ?_
    rintro e w2 ⟨rfl, L2, hA2, hS2⟩
    have HT : Hid (Turned w L who g (M.taken b) w2) := ⟨L2, hA2, (Step.of_below HB1.out).trans hS2⟩
    clear hA2 hS2
    go_wp2_with fail
    go_ret
    exact ⟨by rw [HR0.out]; rfl, by rw [HE.out]; exact HT.out⟩
  · obtain ⟨k, hk, hv⟩ := errV_pos A hr
    have HE : Hid (M.submitted b = M) := if_neg hr
    have HV := hide hv
    rw [hv]
    clear hv hr hk
    unfold ev
    go_wp2_with fail
    go_ret
    exact ⟨by rw [HV.out]; rfl, L, by rw [HE.out]; exact HA.out.keep (Step.of_below (p := fun _ => False) HB1.out) (fun _ h => h), Step.of_below HB1.out⟩
end Go.Proofs.YtojpjaifhjigfabGreatDoor

/- canBe: whether an event can come next. -/
namespace Go.Proofs.YtojpjaifhjigfabGreatDoor
open Go.RowKit Go.Maps

/-- Whether an event can come next. -/
def Ag.canBe (M : Ag) (e : Ev) : Bool :=
  if e.kind = 0 then M.misfit e.b == 0 else
  match M.bs[e.pl]? with
  | none => false
  | some b => decide (b.st = 1) && (if e.kind = 1 then decide (b.fl + e.f < M.c.at') else if e.kind = 2 then decide (b.fl + e.f < M.c.at') && decide (0 < e.f) else if e.kind = 3 then decide (b.fl + e.f = M.c.at') else false)

set_option maxRecDepth 100000 in
set_option maxHeartbeats 2000000 in
theorem canBe_take (A : Nat → Addr) (L : Labs) (who g : Nat) (M : Ag) (b : Bat) (w : World) (hS : Sents.Holds w 197 gl 11 A) (hA : AgentAt w L who g M) (hb : M.bs.length ≤ 120) (ht : b.ten.length ≤ maxLen) :
    Calls Tryz.prog 63 #[.pointer (some ⟨g, 0, none⟩), Ev.val ⟨0, b, 0, 0⟩] w fun r w' => r = .returned (.bool (M.misfit b == 0)) ∧ Below w.heap.size w w' := by
  have HM := hide (fun o => misfit_any A L who g M b (w.alloc o) (hS.below ((Below.refl _ _).alloc (Nat.le_refl _) _)) (hA.keep (Step.alloc (p := fun _ => False) L w o) (fun _ h => h)) hb ht)
  have HMis : Hid (M.misfit b = 0 ∨ ∃ k, M.misfit b = k + 1 ∧ errV A (M.misfit b) = ev A k) := by
    by_cases h0 : M.misfit b = 0
    · exact Or.inl h0
    · obtain ⟨k, h1, h2⟩ := errV_pos A h0
      exact Or.inr ⟨k, h1, h2⟩
  generalize M.misfit b = n at *
  unfold Ev.val
  clear hS hA hb ht
  rcases HMis.out with rfl | ⟨k, rfl, hk⟩
  · go_enter Tryz.func63, Tryz.ntmps63
    go_wp2_with fail
    refine (HM.out _).mono ?_
    rintro e w1 ⟨rfl, hb1⟩
    have HB1 : Hid (Below w.heap.size w w1) := ((Below.refl _ _).alloc (Nat.le_refl _) _).trans (hb1.mono (by simp))
    clear hb1
    rw [show errV A 0 = .nilIface from rfl]
    go_wp2_with fail
    go_ret
    exact ⟨rfl, HB1.out⟩
  · go_enter Tryz.func63, Tryz.ntmps63
    go_wp2_with fail
    refine (HM.out _).mono ?_
    rintro e w1 ⟨rfl, hb1⟩
    have HB1 : Hid (Below w.heap.size w w1) := ((Below.refl _ _).alloc (Nat.le_refl _) _).trans (hb1.mono (by simp))
    clear hb1
    rw [hk]
    unfold ev
    go_wp2_with fail
    go_ret
    exact ⟨rfl, HB1.out⟩

set_option maxRecDepth 100000 in
set_option maxHeartbeats 4000000 in
theorem canBe_other (L : Labs) (who g : Nat) (M : Ag) (kd : Nat) (eb : Bat) (pl f : Nat) (w : World) (hA : AgentAt w L who g M) (hk0 : kd ≠ 0) (hk : kd < 256) (hpl : pl < 256) (hf : f < 256) (hfl : ∀ b ∈ M.bs, 0 ≤ b.fl ∧ b.fl ≤ 1000) (hb120 : M.bs.length ≤ 120) :
    Calls Tryz.prog 63 #[.pointer (some ⟨g, 0, none⟩), Ev.val ⟨kd, eb, pl, f⟩] w fun r w' => r = .returned (.bool (M.canBe ⟨kd, eb, pl, f⟩)) ∧ Below w.heap.size w w' := by
  obtain ⟨bq, bm, cn, tv, dv, nv, rv, ov, hA⟩ := hA
  obtain ⟨ta, tc, rfl, _⟩ := hA.tk.shape
  have hgl := hA.blk.1.lt
  have c0 := fun o => ((hA.blk.1.alloc o).cell 0)
  have c7 := fun o => ((hA.blk.1.alloc o).cell 7)
  simp only [agCells] at c0 c7
  have hkI : ¬ ((kd : Int) = 0) := by omega
  have e0 : M.canBe ⟨kd, eb, pl, f⟩ = match M.bs[pl]? with | none => false | some b => decide (b.st = 1) && (if kd = 1 then decide (b.fl + f < M.c.at') else if kd = 2 then decide (b.fl + f < M.c.at') && decide (0 < f) else if kd = 3 then decide (b.fl + f = M.c.at') else false) := by
    unfold Ag.canBe
    rw [if_neg hk0]
  rw [e0]
  clear e0
  unfold Ev.val
  simp only
  have hBW : ∀ o n, Below w.heap.size w ((w.alloc o).drewN n) := fun o n => by
    have h1 : Below w.heap.size w (w.alloc o) := (Below.refl _ _).alloc (Nat.le_refl _) o
    exact ⟨h1.os, h1.tape, h1.output, h1.size, h1.block⟩
  have HBW := hide hBW
  clear hBW
  by_cases hlt : pl < M.bs.length
  · obtain ⟨b, hb⟩ : ∃ b, M.bs[pl]? = some b := ⟨_, List.getElem?_eq_getElem hlt⟩
    obtain ⟨gt, rfl, hgt, _, hct, _⟩ := hA.tk.head (by omega)
    have hk4 : w.cell? ⟨gt, pl * 6 + 4, none⟩ = some (.int .i64 b.st) := hct _ _ (flat_cell Bat.cells 6 Bat.cells_length hb (by omega) rfl)
    have hk5 : w.cell? ⟨gt, pl * 6 + 5, none⟩ = some (.int .i64 b.fl) := hct _ _ (flat_cell Bat.cells 6 Bat.cells_length hb (by omega) rfl)
    have k4 := fun o => (cell?_alloc_old (W := w) o hk4)
    have k5 := fun o => (cell?_alloc_old (W := w) o hk5)
    obtain ⟨b0, b1⟩ := hfl b (List.mem_of_getElem? hb)
    rw [hb]
    simp only
    have hltI : (pl : Int) < (M.bs.length : Int) := by omega
    have hltI2 : ¬ ((M.bs.length : Int) ≤ (pl : Int)) := by omega
    have hdec : decide ((M.bs.length : Int) ≤ (pl : Int)) = false := decide_eq_false hltI2
    generalize M.bs.length = n at *
    generalize M.c.at' = at1 at *
    generalize b.st = st at *
    generalize b.fl = fl at *
    clear hfl hct hb hk4 hk5 hA
    by_cases hst : st = 1
    · subst hst
      have hw : IntKind.i64.wrap (fl + (f : Int)) = fl + f := IntWalk.i64_in _ (by omega)
      have HBW2 : Hid (∀ o n m, Below w.heap.size w (((w.alloc o).drewN n).drewN m)) := fun o n m => by
        have h1 := HBW.out o n
        exact ⟨h1.os, h1.tape, h1.output, h1.size, h1.block⟩
      simp only [decide_true, Bool.true_and]
      by_cases k1 : kd = 1
      · subst k1
        simp only [if_true]
        go_enter Tryz.func63, Tryz.ntmps63
        go_wp2_with fail
        go_quiet (fail)
        go_wp2_with fail
        go_quiet (fail)
        go_wp2_with fail
        go_ret
        exact ⟨by first | rfl | simp, by first | exact HBW.out _ _ | exact HBW2.out _ _ _⟩
      · rw [if_neg k1]
        have k1I : ¬ ((kd : Int) = 1) := by omega
        by_cases k2 : kd = 2
        · subst k2
          simp only [if_true]
          by_cases hl : fl + (f : Int) < at1
          · rw [decide_eq_true hl, Bool.true_and]
            go_enter Tryz.func63, Tryz.ntmps63
            go_wp2_with fail
            go_quiet (fail)
            go_wp2_with fail
            go_quiet (fail)
            go_wp2_with fail
            go_ret
            exact ⟨by first | rfl | simp, by first | exact HBW.out _ _ | exact HBW2.out _ _ _⟩
          · rw [decide_eq_false hl, Bool.false_and]
            go_enter Tryz.func63, Tryz.ntmps63
            go_wp2_with fail
            go_quiet (fail)
            go_wp2_with fail
            go_quiet (fail)
            go_wp2_with fail
            go_ret
            exact ⟨by first | rfl | simp, by first | exact HBW.out _ _ | exact HBW2.out _ _ _⟩
        · rw [if_neg k2]
          have k2I : ¬ ((kd : Int) = 2) := by omega
          by_cases k3 : kd = 3
          · subst k3
            simp only [if_true]
            go_enter Tryz.func63, Tryz.ntmps63
            go_wp2_with fail
            go_quiet (fail)
            go_wp2_with fail
            go_quiet (fail)
            go_wp2_with fail
            go_ret
            exact ⟨by first | rfl | simp, by first | exact HBW.out _ _ | exact HBW2.out _ _ _⟩
          · rw [if_neg k3]
            have k3I : ¬ ((kd : Int) = 3) := by omega
            go_enter Tryz.func63, Tryz.ntmps63
            go_wp2_with fail
            go_quiet (fail)
            go_wp2_with fail
            go_quiet (fail)
            go_wp2_with fail
            go_ret
            exact ⟨by first | rfl | simp, by first | exact HBW.out _ _ | exact HBW2.out _ _ _⟩
    · have hstd : decide (st = 1) = false := decide_eq_false hst
      rw [hstd, Bool.false_and]
      have hstn : (st != 1) = true := by simp [hst]
      go_enter Tryz.func63, Tryz.ntmps63
      go_wp2_with fail
      go_quiet (fail)
      go_wp2_with fail
      go_ret
      exact ⟨rfl, HBW.out _ _⟩
  · have hn : M.bs[pl]? = none := List.getElem?_eq_none (by omega)
    rw [hn]
    simp only
    have hltI : (M.bs.length : Int) ≤ (pl : Int) := by omega
    have hdec : decide ((M.bs.length : Int) ≤ (pl : Int)) = true := decide_eq_true hltI
    generalize M.bs.length = n at *
    clear hfl hA hn
    go_enter Tryz.func63, Tryz.ntmps63
    go_wp2_with fail
    go_quiet (fail)
    go_wp2_with fail
    go_ret
    exact ⟨rfl, HBW.out _ _⟩
end Go.Proofs.YtojpjaifhjigfabGreatDoor

/- head, sizeToGo: what stands at a queue's head, and whether it may go. -/
namespace Go.Proofs.YtojpjaifhjigfabGreatDoor
open Go.RowKit Go.Maps

/-- The place at a queue's head: -1, if there is none. -/
def headOf (ps : List Nat) : Int := match ps with | [] => -1 | p :: _ => p

set_option maxRecDepth 100000 in
set_option maxHeartbeats 1000000 in
theorem head_any (L : Labs) (who g : Nat) (M : Ag) (d : Int) (t : List UInt8) (w : World) (hA : AgentAt w L who g M) (hl : LaneOk d t) :
    Calls Tryz.prog 112 #[.pointer (some ⟨g, 0, none⟩), .agg #[.int .i64 d, encStr t]] w fun e w' => e = .returned (.int .i64 (headOf (pend M.bs d t))) ∧ Below w.heap.size w w' := by
  obtain ⟨bq, bm, cn, tv, dv, nv, rv, ov, h⟩ := hA
  obtain ⟨D, hq, hsz, h4, hhas, hrow⟩ := h.qs
  obtain ⟨qa, ql, qc, hhd, hlook⟩ := look_queue hq.1 hl
  have hr0 := hrow d t hl
  rw [hhd] at hr0
  have hql : ql = (pend M.bs d t).length := by
    obtain ⟨a', c', e', _⟩ := hr0.shape
    simp at e'
    exact e'.2.1
  subst hql
  have hgl := h.blk.1.lt
  have c1 : w.cell? ⟨g, 1, none⟩ = some (.map (some bq)) := h.blk.1.cell 1
  have HLk : Hid (∀ V, Below w.heap.size w V → (Instr.lookup 59 (.map (some bq)) (.agg #[.int .i64 d, encStr t]) false).run Tryz.prog V = .ok (.slice qa (pend M.bs d t).length qc) V) := fun V hV => hlook V _ (ownsMap_of_block hq.1 (hV.block bq hq.1.lt))
  have Hr0 := hide hr0
  clear h hq hsz h4 hhas hrow hhd hlook hr0
  generalize hps : pend M.bs d t = ps at *
  clear hps
  cases ps with
  | nil =>
    simp only [List.length_nil] at HLk
    go_enter Tryz.func112, Tryz.ntmps112
    go_wp2_with fail
    generalize hV : World.alloc w _ = V
    have hBV : Below w.heap.size w V := by rw [← hV]; exact (Below.refl _ _).alloc (Nat.le_refl _) _
    have hNV : Blk V w.heap.size #[.int .i64 d, encStr t] 175 := by rw [← hV]; exact Blk.new _ _ _
    have d1 : V.cell? ⟨g, 1, none⟩ = some (.map (some bq)) := (hBV.cell (p := ⟨g, 1, none⟩) hgl).trans c1
    have l0 : V.cell? ⟨w.heap.size, 0, none⟩ = some (.int .i64 d) := hNV.cell 0
    have l1 : V.cell? ⟨w.heap.size, 1, none⟩ = some (encStr t) := hNV.cell 1
    have hlk := HLk.out V.drew hBV.drew
    have HBV := hide hBV
    clear hV hBV hNV
    go_region
    all_goals
      go_wp2_with fail
      go_ret
      exact ⟨rfl, HBV.out.drew⟩
  | cons p ps =>
    have hlen : (p :: ps).length = ps.length + 1 := rfl
    obtain ⟨gq, rfl, hgq, _, hcq, _⟩ := Hr0.out.head (by simp)
    have hc0 : w.cell? ⟨gq, 0, none⟩ = some (.int .i64 p) := hcq 0 _ rfl
    rw [hlen] at HLk
    clear hcq hlen
    have hpos : 0 < ((ps.length + 1 : Nat) : Int) := by omega
    generalize hn : ps.length + 1 = n at *
    clear hn
    go_enter Tryz.func112, Tryz.ntmps112
    go_wp2_with fail
    generalize hV : World.alloc w _ = V
    have hBV : Below w.heap.size w V := by rw [← hV]; exact (Below.refl _ _).alloc (Nat.le_refl _) _
    have hNV : Blk V w.heap.size #[.int .i64 d, encStr t] 175 := by rw [← hV]; exact Blk.new _ _ _
    have d1 : V.cell? ⟨g, 1, none⟩ = some (.map (some bq)) := (hBV.cell (p := ⟨g, 1, none⟩) hgl).trans c1
    have dq : V.cell? ⟨gq, 0, none⟩ = some (.int .i64 p) := (hBV.cell (p := ⟨gq, 0, none⟩) hgq).trans hc0
    have l0 : V.cell? ⟨w.heap.size, 0, none⟩ = some (.int .i64 d) := hNV.cell 0
    have l1 : V.cell? ⟨w.heap.size, 1, none⟩ = some (encStr t) := hNV.cell 1
    have hlk := HLk.out V.drew hBV.drew
    have HBV := hide hBV
    clear hV hBV hNV
    go_region
    all_goals
      go_wp2_with fail
      go_ret
      exact ⟨rfl, HBV.out.drew⟩

set_option maxRecDepth 100000 in
set_option maxHeartbeats 1000000 in
theorem sizeToGo_any (L : Labs) (who g : Nat) (M : Ag) (d : Nat) (t : List UInt8) (w : World) (hA : AgentAt w L who g M) (hl : LaneOk d t) (hrl : M.rt.length = M.bs.length) (hbl : ∀ b ∈ M.bs, b.body.length ≤ 63) :
    Calls Tryz.prog 110 #[.pointer (some ⟨g, 0, none⟩), .agg #[.int .i64 d, encStr t]] w fun e w' => e = .returned (.int .i64 (M.size d t)) ∧ Below w.heap.size w w' := by
  have HHd := hide (fun V (hV : Below w.heap.size w V) => head_any L who g M d t V (hA.keep (Step.of_below (p := fun _ => False) hV) (fun _ h => h)) hl)
  obtain ⟨bq, bm, cn, tv, dv, nv, rv, ov, h⟩ := hA
  obtain ⟨ta, tc, rfl, _⟩ := h.tk.shape
  obtain ⟨ra, rc, rfl, _⟩ := h.rt.shape
  have hgl := h.blk.1.lt
  have c0 : w.cell? ⟨g, 0, none⟩ = some (.slice ta M.bs.length tc) := h.blk.1.cell 0
  have c16 : w.cell? ⟨g, 16, none⟩ = some (.int .i64 M.now) := h.blk.1.cell 16
  have c17 : w.cell? ⟨g, 17, none⟩ = some (.slice ra M.rt.length rc) := h.blk.1.cell 17
  have HH := hide h
  have Hbl := hide hbl
  have Hrl := hide hrl
  unfold Ag.size
  cases hps : pend M.bs d t with
  | nil =>
    rw [hps] at HHd
    clear h hbl hrl hps
    go_enter Tryz.func110, Tryz.ntmps110
    go_wp2_with fail
    have hB0 := fun o => (Below.refl w.heap.size w).alloc (Nat.le_refl _) o
    go_cut [5] (fun s5 wx => s5 = .int .i64 (-1) ∧ Below w.heap.size w wx)
    case first =>
      go_region_with ((go_at_call 112; refine (HHd.out _ (by first | exact hB0 _ | exact (hB0 _).drew)).mono ?_; rintro e w2 ⟨rfl, hb2⟩))
      all_goals
        go_wp2_with fail
        go_meet
        refine ⟨rfl, (hB0 _).drew.trans (hb2.mono (by simp))⟩
    case rest =>
    obtain ⟨rfl, hb⟩ := hcut
    have Hb := hide hb
    clear hb
    go_wp2_with fail
    go_quiet (fail)
    go_wp2_with fail
    go_ret
    exact ⟨rfl, below_drewN Hb.out _⟩
  | cons p ps =>
    obtain ⟨b, hb, _⟩ := mem_pend.1 (show p ∈ pend M.bs d t by rw [hps]; simp)
    have hpl := (List.getElem?_eq_some_iff.1 hb).1
    obtain ⟨r, hr⟩ : ∃ r, M.rt[p]? = some r := ⟨_, List.getElem?_eq_getElem (by omega)⟩
    obtain ⟨gt, rfl, hgt, _, hct, _⟩ := h.tk.head (by omega)
    obtain ⟨gr, rfl, hgr, _, hcr, _⟩ := h.rt.head (by omega)
    have t3 : w.cell? ⟨gt, p * 6 + 3, none⟩ = some (encStr b.body) := hct _ _ (flat_cell Bat.cells 6 Bat.cells_length hb (by omega) rfl)
    have r0 : w.cell? ⟨gr, p * 2, none⟩ = some (.int .i64 r.fr) := hcr (p * 2 + 0) _ (flat_cell Ret.cells 2 (fun _ => rfl) hr (by omega) rfl)
    have hb63 := hbl b (List.mem_of_getElem? hb)
    simp only [hb, hr, Option.map_some, Option.getD_some]
    rw [hps] at HHd
    have hpI : (p : Int) < (M.bs.length : Int) := by omega
    have hpR : (p : Int) < (M.rt.length : Int) := by omega
    have hpn : ((p : Int) == -1) = false := beq_eq_false_iff_ne.2 (by omega)
    clear h hbl hrl hps hct hcr hb hr
    go_enter Tryz.func110, Tryz.ntmps110
    go_wp2_with fail
    have hB0 := fun o => (Below.refl w.heap.size w).alloc (Nat.le_refl _) o
    go_cut [5] (fun s5 wx => s5 = .int .i64 (p : Int) ∧ Below w.heap.size w wx)
    case first =>
      go_region_with ((go_at_call 112; refine (HHd.out _ (by first | exact hB0 _ | exact (hB0 _).drew)).mono ?_; rintro e w2 ⟨rfl, hb2⟩))
      all_goals
        go_wp2_with fail
        go_meet
        refine ⟨rfl, (hB0 _).drew.trans (hb2.mono (by simp))⟩
    case rest =>
    obtain ⟨rfl, hb⟩ := hcut
    generalize hwc : wc = X at *
    have x0 : X.cell? ⟨g, 0, none⟩ = _ := (hb.cell (p := ⟨g, 0, none⟩) hgl).trans c0
    have x16 : X.cell? ⟨g, 16, none⟩ = _ := (hb.cell (p := ⟨g, 16, none⟩) hgl).trans c16
    have x17 : X.cell? ⟨g, 17, none⟩ = _ := (hb.cell (p := ⟨g, 17, none⟩) hgl).trans c17
    have xt : X.cell? ⟨gt, p * 6 + 3, none⟩ = _ := (hb.cell (p := ⟨gt, p * 6 + 3, none⟩) hgt).trans t3
    have xr : X.cell? ⟨gr, p * 2, none⟩ = _ := (hb.cell (p := ⟨gr, p * 2, none⟩) hgr).trans r0
    have Hb := hide hb
    clear hb hwc c0 c16 c17 t3 r0
    by_cases hn : M.now < r.fr
    · go_wp2_with fail
      go_quiet (fail)
      go_wp2_with fail
      go_ret
      exact ⟨rfl, below_drewN Hb.out _⟩
    · go_wp2_with fail
      go_quiet (fail)
      go_wp2_with fail
      go_ret
      exact ⟨rfl, below_drewN Hb.out _⟩
end Go.Proofs.YtojpjaifhjigfabGreatDoor
