/- Steps of the proof (several texts in one): Submit, Inv, Inv2, InvNew. -/
import Derived.Test.YtojpjaifhjigfaaGreatDoorMAllupto15
import Derived.Test.YtojpjaifhjigfaaGreatDoorMAllupto02

/- refusal, Submit: the program's side. -/
namespace Go.Proofs.YtojpjaifhjigfaaGreatDoor
open Go.RowKit Go.Maps

theorem errV_pos (A : Nat → Addr) {n : Nat} (h : n ≠ 0) : ∃ k, n = k + 1 ∧ errV A n = ev A k := by
  obtain ⟨k, rfl⟩ := Nat.exists_eq_succ_of_ne_zero h
  exact ⟨k, rfl, rfl⟩

set_option maxRecDepth 100000 in
set_option maxHeartbeats 2000000 in
theorem refusal_any (A : Nat → Addr) (L : Labs) (who g : Nat) (M : Ag) (b : Bat) (w : World) (hS : Sents.Holds w 260 gl 11 A) (h : AgentAt w L who g M) (hb : M.bs.length ≤ 120) (ht : b.ten.length ≤ maxLen) :
    Calls Tryz.prog 65 #[.pointer (some ⟨g, 0, none⟩), batVal b] w fun e w' => e = .returned (errV A (M.refusal b)) ∧ Below w.heap.size w w' := by
  have HM : Hid (∀ w1, Below w.heap.size w w1 → Calls Tryz.prog 108 #[.pointer (some ⟨g, 0, none⟩), batVal b] w1 fun e w' => e = .returned (errV A (M.misfit b)) ∧ Below w1.heap.size w1 w') := fun w1 h1 => misfit_any A L who g M b w1 (hS.below h1) (h.keep (Step.of_below (p := fun _ => False) (L := L) h1) (fun _ h => h)) hb ht
  have HW : Hid (∀ w1, Below w.heap.size w w1 → Calls Tryz.prog 77 #[.pointer (some ⟨g, 0, none⟩)] w1 fun e w' => NewCounts w1 w' (waits M.bs) e) := fun w1 h1 => pWaiting_any L who g M w1 (h.keep (Step.of_below (p := fun _ => False) (L := L) h1) (fun _ h => h)) hb
  have HS := hide hS
  have c6 : w.cell? ⟨g, 6, none⟩ = some (.int .i64 M.c.q) := by obtain ⟨bq, bm, cn, tv, dv, nv, rv, ov, h⟩ := h; exact h.blk.1.cell 6
  have hgl : g < w.heap.size := World.block_lt_of_cell? w _ c6
  have hkS := keyStr ht
  have HKS := hide hkS
  have hB0 := fun o => (Below.refl w.heap.size w).alloc (Nat.le_refl _) o
  have hB00 := hide hB0
  unfold batVal at *
  clear h hS hkS hB0
  go_enter Tryz.func65, Tryz.ntmps65
  go_wp2_with fail
  refine (HM.out _ (hB00.out _)).mono ?_
  rintro e w1 ⟨rfl, hb1⟩
  have hB1 : Below w.heap.size w w1 := (hB00.out _).trans (hb1.mono (by simp))
  have hN1 : Blk w1 w.heap.size #[.int .i64 b.dst, encStr b.ten, encStr b.id, encStr b.body] 45 := (Blk.new w _ _).below hb1 (by simp)
  have n1 : w1.cell? ⟨w.heap.size, 1, none⟩ = some (encStr b.ten) := hN1.cell 1
  have d6 : w1.cell? ⟨g, 6, none⟩ = some (.int .i64 M.c.q) := (hB1.cell (p := ⟨g, 6, none⟩) hgl).trans c6
  have q8 := (HS.out.below hB1).cell 8 (by decide)
  simp only [gl, List.getD_cons_zero, List.getD_cons_succ] at q8
  have hgl1 : g < w1.heap.size := Nat.lt_of_lt_of_le hgl hB1.size
  have hnl := hN1.lt
  have HB1 := hide hB1
  have HN1 := hide hN1
  clear hb1 hB1 hN1 c6 hgl
  by_cases hm : M.misfit b = 0
  · have HM0 := hide hm
    rw [hm]
    simp only [errV]
    clear hm
    by_cases h9 : M.c.q ≤ (waits M.bs b.ten : Int)
    · have H9 := hide h9
      go_wp2_with fail
      go_region_with ((go_at_call 77; refine (HW.out _ (by exact HB1.out.drew)).mono ?_; rintro e w2 ⟨bw, nw, D, rfl, hbw, hO, hnw, hC, hb2⟩; have hB2 := HB1.out.drew.trans (hb2.mono HB1.out.size); have n1' : w2.cell? ⟨w.heap.size, 1, none⟩ = some (encStr b.ten) := (hb2.cell (p := ⟨w.heap.size, 1, none⟩) hnl).trans n1; have d6' : w2.cell? ⟨g, 6, none⟩ = some (.int .i64 M.c.q) := (hb2.cell (p := ⟨g, 6, none⟩) hgl1).trans d6; obtain ⟨c, hlk, hat, _⟩ := World.ownsMap.lookup_int hO lawS Tryz.underlying22 Tryz.underlying3 (zeroInt _) HKS.out; obtain rfl := hC.look ht hat; have HB2 := hide hB2; have HS2 := hide (HS.out.below hB2); clear hbw hO hnw hC hb2 hB2 hat))
      all_goals
        have q8' := HS2.out.cell 8 (by decide)
        simp only [gl, List.getD_cons_zero, List.getD_cons_succ] at q8'
        go_wp2_with fail
        go_ret
        exact ⟨by simp [Ag.refusal, HM0.out, if_pos H9.out, errV, ev], HB2.out⟩
    · have H9 := hide h9
      go_wp2_with fail
      go_region_with ((go_at_call 77; refine (HW.out _ (by exact HB1.out.drew)).mono ?_; rintro e w2 ⟨bw, nw, D, rfl, hbw, hO, hnw, hC, hb2⟩; have hB2 := HB1.out.drew.trans (hb2.mono HB1.out.size); have n1' : w2.cell? ⟨w.heap.size, 1, none⟩ = some (encStr b.ten) := (hb2.cell (p := ⟨w.heap.size, 1, none⟩) hnl).trans n1; have d6' : w2.cell? ⟨g, 6, none⟩ = some (.int .i64 M.c.q) := (hb2.cell (p := ⟨g, 6, none⟩) hgl1).trans d6; obtain ⟨c, hlk, hat, _⟩ := World.ownsMap.lookup_int hO lawS Tryz.underlying22 Tryz.underlying3 (zeroInt _) HKS.out; obtain rfl := hC.look ht hat; have HB2 := hide hB2; have HS2 := hide (HS.out.below hB2); clear hbw hO hnw hC hb2 hB2 hat))
      all_goals
        go_wp2_with fail
        go_ret
        exact ⟨by simp [Ag.refusal, HM0.out, if_neg (Int.not_le.2 H9.out), errV], HB2.out⟩
  · obtain ⟨k, hk, hv⟩ := errV_pos A hm
    rw [hv]
    have Hk := hide hk
    clear hv hm hk
    unfold ev
    go_wp2_with fail
    go_ret
    exact ⟨by simp [Ag.refusal, Hk.out, errV, ev], HB1.out⟩

/-- An agent behind a Submit. -/
def Ag.submitted (M : Ag) (b : Bat) : Ag := if M.refusal b = 0 then M.taken b else M

theorem refusal_zero {M : Ag} {b : Bat} (h : M.refusal b = 0) : destB M b.dst = true ∧ Maps.has M.D (.string b.ten) = true ∧ inB b.id.length 1 16 = true ∧ b.body.length ≤ 63 ∧ findId M.bs b.id = -1 ∧ M.bs.length < 120 ∧ (waits M.bs b.ten : Int) < M.c.q := by
  unfold Ag.refusal at h
  by_cases h1 : M.misfit b = 0
  · rw [if_neg (by simpa using h1)] at h
    have h9 : (waits M.bs b.ten : Int) < M.c.q := by
      by_cases h9 : M.c.q ≤ (waits M.bs b.ten : Int)
      · rw [if_pos h9] at h; cases h
      · omega
    unfold Ag.misfit at h1
    by_cases a1 : destB M b.dst = false
    · rw [if_pos a1] at h1; cases h1
    rw [if_neg a1] at h1
    by_cases a2 : Maps.has M.D (.string b.ten) = false
    · rw [if_pos a2] at h1; cases h1
    rw [if_neg a2] at h1
    by_cases a3 : inB b.id.length 1 16 = false
    · rw [if_pos a3] at h1; cases h1
    rw [if_neg a3] at h1
    by_cases a4 : 63 < b.body.length
    · rw [if_pos a4] at h1; cases h1
    rw [if_neg a4] at h1
    by_cases a5 : findId M.bs b.id ≠ -1
    · rw [if_pos a5] at h1; cases h1
    rw [if_neg a5] at h1
    by_cases a6 : 120 ≤ M.bs.length
    · rw [if_pos a6] at h1; cases h1
    exact ⟨by simpa using a1, by simpa using a2, by simpa using a3, by omega, by simpa using a5, by omega, h9⟩
  · rw [if_pos h1] at h
    exact absurd h h1

set_option maxRecDepth 100000 in
set_option maxHeartbeats 2000000 in
theorem submit_any (A : Nat → Addr) (L : Labs) (who g : Nat) (M : Ag) (b : Bat) (w : World) (hS : Sents.Holds w 260 gl 11 A) (h : AgentAt w L who g M) (hb : M.bs.length ≤ 120) (ht : b.ten.length ≤ maxLen) (hd4 : M.c.d ≤ 4) (hn16 : ∀ x, Maps.has M.D (.string x) = true → x.length ≤ 16) (hlg : M.log.length ≤ 900000000000000) (hrt : M.rt.length ≤ 120) :
    Calls Tryz.prog 27 #[.pointer (some ⟨g, 0, none⟩), batVal b] w fun e w' => e = .returned (errV A (M.refusal b)) ∧ Turned w L who g (M.submitted b) w' := by
  have hB0 := fun o => (Below.refl w.heap.size w).alloc (Nat.le_refl _) o
  have HR : Hid (∀ w1, Below w.heap.size w w1 → Calls Tryz.prog 65 #[.pointer (some ⟨g, 0, none⟩), batVal b] w1 fun e w' => e = .returned (errV A (M.refusal b)) ∧ Below w1.heap.size w1 w') := fun w1 h1 => refusal_any A L who g M b w1 (hS.below h1) (h.keep (Step.of_below (p := fun _ => False) (L := L) h1) (fun _ h => h)) hb ht
  have HA := hide h
  have hB00 := hide hB0
  unfold batVal at *
  clear h hS hB0
  go_enter Tryz.func27, Tryz.ntmps27
  go_wp2_with fail
  refine (HR.out _ (hB00.out _)).mono ?_
  rintro e w1 ⟨rfl, hb1⟩
  have hB1 : Below w.heap.size w w1 := (hB00.out _).trans (hb1.mono (by simp))
  have hN1 : Blk w1 w.heap.size #[.int .i64 b.dst, encStr b.ten, encStr b.id, encStr b.body] 45 := (Blk.new w _ _).below hb1 (by simp)
  have n0 : w1.cell? ⟨w.heap.size, 0, none⟩ = some (.int .i64 b.dst) := hN1.cell 0
  have n1 : w1.cell? ⟨w.heap.size, 1, none⟩ = some (encStr b.ten) := hN1.cell 1
  have n2 : w1.cell? ⟨w.heap.size, 2, none⟩ = some (encStr b.id) := hN1.cell 2
  have n3 : w1.cell? ⟨w.heap.size, 3, none⟩ = some (encStr b.body) := hN1.cell 3
  have hnl := hN1.lt
  have HB1 := hide hB1
  clear hb1 hB1 hN1
  by_cases hr : M.refusal b = 0
  · obtain ⟨r1, r2, r3, r4, r5, r6, r7⟩ := refusal_zero hr
    have hdd : 0 ≤ b.dst ∧ b.dst < 4 := by simp [destB] at r1; omega
    have hid : b.id.length ≤ 16 := by simp [inB] at r3; omega
    have HAd := hide (admit_any L who g M b w1 (HA.out.keep (Step.of_below (p := fun _ => False) (L := L) HB1.out) (fun _ h => h)) r6 hdd (hn16 _ r2) hid r4 hlg hrt)
    have HE : Hid (M.submitted b = M.taken b) := if_pos hr
    have HR0 := hide hr
    rw [hr]
    simp only [errV]
    unfold batVal at HAd
    clear r1 r2 r3 r4 r5 r6 r7 hr
    go_wp2_with fail
    refine HAd.out.mono ?_
    rintro e w2 ⟨rfl, L2, hA2, hS2⟩
    have HT : Hid (Turned w L who g (M.taken b) w2) := ⟨L2, hA2, (Step.of_below HB1.out).trans hS2⟩
    clear hA2 hS2
    go_wp2_with fail
    go_ret
    exact ⟨by rw [HR0.out]; rfl, by rw [HE.out]; exact HT.out⟩
  · obtain ⟨k, hk, hv⟩ := errV_pos A hr
    have HE : Hid (M.submitted b = M) := if_neg hr
    have HV := hide hv
    rw [hv]
    clear hv hr hk
    unfold ev
    go_wp2_with fail
    go_ret
    exact ⟨by rw [HV.out]; rfl, L, by rw [HE.out]; exact HA.out.keep (Step.of_below (p := fun _ => False) HB1.out) (fun _ h => h), Step.of_below HB1.out⟩
end Go.Proofs.YtojpjaifhjigfaaGreatDoor

/- What holds of every agent, and how Tick and Reply keep it. -/
namespace Go.Proofs.YtojpjaifhjigfaaGreatDoor
open Go.RowKit Go.Maps

/-- An agent after at most t calls. -/
structure Inv (M : Ag) (t : Nat) : Prop where
  good : GoodC M.c M.D
  pm : M.ns.Perm (strKeys M.D)
  nd : M.ns.Nodup
  nl : M.ns.length ≤ 8
  n1 : 1 ≤ M.ns.length
  sl : ∀ x ∈ M.ns, 1 ≤ x.length ∧ x.length ≤ 16
  hs : ∀ x, x ∈ M.ns ↔ Maps.has M.D (.string x) = true
  q : ∀ x ∈ M.ns, 64 ≤ qOf M.D x ∧ qOf M.D x ≤ 1000
  b120 : M.bs.length ≤ 120
  each : ∀ b ∈ M.bs, 0 ≤ b.dst ∧ b.dst < M.c.d ∧ b.ten ∈ M.ns ∧ 1 ≤ b.id.length ∧ b.id.length ≤ 16 ∧ b.body.length ≤ 63 ∧ 0 ≤ b.fl ∧ ((b.st = 1 ∧ b.fl < M.c.at') ∨ (b.st = 2 ∧ b.fl < M.c.at') ∨ (b.st = 3 ∧ b.fl = M.c.at'))
  dead : ∀ p, p ∈ M.dead ↔ ∃ b, M.bs[p]? = some b ∧ b.st = 3
  ddn : M.dead.Nodup
  rl : M.rt.length = M.bs.length
  rt : ∀ r ∈ M.rt, M.c.ba ≤ r.pa ∧ r.pa ≤ M.c.ca
  ol : (M.os.length : Int) = M.c.d
  os : ∀ (d : Nat) (o : Out), M.os[d]? = some o → 0 ≤ o.res ∧ o.res < M.c.wi ∧ 0 ≤ o.fl ∧ o.fl ≤ o.res ∧ Rot M.ns.length (o.turn, o.cr) ∧ 0 ≤ o.sends ∧ o.sends ≤ t ∧ 0 ≤ o.began ∧ o.began ≤ M.now
  way : ∀ (d : Nat) (o : Out), M.os[d]? = some o → o.way = -1 ∨ ∃ (p : Nat) (b : Bat), o.way = p ∧ M.bs[p]? = some b ∧ b.st = 1 ∧ b.dst = d
  nw0 : 0 ≤ M.now
  nw1 : M.now ≤ 60000 * t
  lg : M.log.length ≤ 200 * t

theorem nodup_le : ∀ (n : Nat) (l : List Nat), l.Nodup → (∀ x ∈ l, x < n) → l.length ≤ n
  | 0, l, _, h => by
    cases l with
    | nil => simp
    | cons a l => exact absurd (h a (by simp)) (by omega)
  | n + 1, l, hn, h => by
    by_cases hm : n ∈ l
    · have := nodup_le n (l.erase n) (hn.erase n) (fun x hx => by
        have h1 := (hn.mem_erase_iff).1 hx
        have := h x h1.2
        have := h1.1
        omega)
      rw [List.length_erase_of_mem hm] at this
      omega
    · have := nodup_le n l hn (fun x hx => by
        have := h x hx
        have : x ≠ n := fun e => hm (e ▸ hx)
        omega)
      omega
theorem Inv.dead_le {M : Ag} {t : Nat} (h : Inv M t) : M.dead.length ≤ 120 := by
  have h1 := nodup_le M.bs.length M.dead h.ddn (fun p hp => by
    obtain ⟨b, hb, _⟩ := (h.dead p).1 hp
    exact (List.getElem?_eq_some_iff.1 hb).1)
  have := h.b120
  omega
theorem Inv.giveOk {M : Ag} {t : Nat} {draw : Int} (h : Inv M t) (ht : t ≤ 10000000000000) (hd : 0 ≤ draw) : GiveOk M draw := by
  have hc := Cfg.ok h.good.1
  refine ⟨hc, hd, h.nw0, by have := h.nw1; omega, by have := h.ol; have := hc.d; omega, fun d o ho => ?_⟩
  obtain ⟨a1, a2, a3, a4, _, _, _, a8, a9⟩ := h.os d o ho
  refine ⟨a1, by have := hc.wi; omega, a3, a4, ?_, a8, a9⟩
  rcases h.way d o ho with e | ⟨p, b, e1, e2, e3, e4⟩
  · exact Or.inl e
  · have hpl := (List.getElem?_eq_some_iff.1 e2).1
    obtain ⟨r, hr⟩ : ∃ r, M.rt[p]? = some r := ⟨_, List.getElem?_eq_getElem (by rw [h.rl]; exact hpl)⟩
    obtain ⟨_, _, _, _, _, _, b7, b8⟩ := h.each b (List.mem_of_getElem? e2)
    have := h.rt r (List.mem_of_getElem? hr)
    exact Or.inr ⟨p, b, r, e1, e2, hr, e3, e4, b7, by omega, this.1, this.2⟩
theorem Inv.sendOk {M : Ag} {t : Nat} (h : Inv M t) (ht : t ≤ 10000000000000) : SendOk M := by
  have hc := Cfg.ok h.good.1
  exact ⟨hc, h.nl, fun x hx => (h.sl x hx).2, fun x hx => (h.hs x).1 hx, h.q, h.rl, fun b hb => (h.each b hb).2.2.2.2.2.1, h.b120, h.nw0, by have := h.nw1; omega, by have := h.ol; have := hc.d; omega⟩
theorem Inv.destOk {M : Ag} {t : Nat} (h : Inv M t) (ht : t ≤ 10000000000000) (d : Nat) (o : Out) (ho : M.os[d]? = some o) : DestOk M o := by
  obtain ⟨_, _, _, _, a5, a6, a7, _⟩ := h.os d o ho
  exact ⟨a5, a6, by omega⟩

/-- What a result makes of a breaker keeps its bounds, and nothing else turns. -/
theorem heard_ok (o : Out) (c : Cfg) (now : Int) (good : Bool) (h0 : 0 ≤ o.res) (h1 : o.res < c.wi) (h2 : 0 ≤ o.fl) (h3 : o.fl ≤ o.res) :
    (0 ≤ (o.heard c now good).res ∧ (o.heard c now good).res < c.wi ∧ 0 ≤ (o.heard c now good).fl ∧ (o.heard c now good).fl ≤ (o.heard c now good).res) ∧
    (o.heard c now good).turn = o.turn ∧ (o.heard c now good).cr = o.cr ∧ (o.heard c now good).sends = o.sends ∧ (o.heard c now good).way = o.way ∧ (o.heard c now good).began = o.began := by
  have hw : 0 < c.wi := by omega
  have z : (0 : Int) ≤ 0 ∧ (0 : Int) < c.wi ∧ (0 : Int) ≤ 0 ∧ (0 : Int) ≤ 0 := ⟨by omega, hw, by omega, by omega⟩
  unfold Out.heard
  by_cases ht : o.trip = true
  · rw [if_pos ht]
    cases good
    · exact ⟨z, rfl, rfl, rfl, rfl, rfl⟩
    · exact ⟨⟨h0, h1, h2, h3⟩, rfl, rfl, rfl, rfl, rfl⟩
  · rw [if_neg ht]
    unfold Out.counted
    dsimp only
    by_cases h5 : (decide (c.le ≤ o.res + 1) && tooMany c.th (if good = true then o.fl else o.fl + 1) (o.res + 1)) = true
    · rw [if_pos h5]
      exact ⟨z, rfl, rfl, rfl, rfl, rfl⟩
    · rw [if_neg h5]
      by_cases h6 : o.res + 1 = c.wi
      · rw [if_pos h6]
        exact ⟨z, rfl, rfl, rfl, rfl, rfl⟩
      · rw [if_neg h6]
        refine ⟨⟨by show 0 ≤ o.res + 1; omega, by show o.res + 1 < c.wi; omega, ?_, ?_⟩, rfl, rfl, rfl, rfl, rfl⟩
        · cases good
          · show 0 ≤ o.fl + 1; omega
          · exact h2
        · cases good
          · show o.fl + 1 ≤ o.res + 1; omega
          · show o.fl ≤ o.res + 1; omega

theorem Inv.change {M : Ag} {t d : Nat} {o : Out} {p : Nat} {b : Bat} (h : Inv M t) (ho : M.os[d]? = some o) (hb : M.bs[p]? = some b) (hst : b.st = 1) (hdst : b.dst = d) (o2 : Out)
    (q1 : 0 ≤ o2.res ∧ o2.res < M.c.wi ∧ 0 ≤ o2.fl ∧ o2.fl ≤ o2.res) (q2 : o2.turn = o.turn ∧ o2.cr = o.cr ∧ o2.sends = o.sends ∧ o2.way = -1 ∧ o2.began = o.began) (b2 : Bat)
    (r1 : b2.dst = b.dst ∧ b2.ten = b.ten ∧ b2.id = b.id ∧ b2.body = b.body) (r2 : 0 ≤ b2.fl ∧ ((b2.st = 1 ∧ b2.fl < M.c.at') ∨ (b2.st = 2 ∧ b2.fl < M.c.at') ∨ (b2.st = 3 ∧ b2.fl = M.c.at'))) (dd : List Nat) (hdd : dd = if b2.st = 3 then M.dead ++ [p] else M.dead)
    (rt : List Ret) (hrl : rt.length = M.rt.length) (hrt : ∀ r ∈ rt, M.c.ba ≤ r.pa ∧ r.pa ≤ M.c.ca) : Inv { M with os := M.os.set d o2, bs := M.bs.set p b2, dead := dd, rt := rt } t := by
  have hpl := (List.getElem?_eq_some_iff.1 hb).1
  have hdl := (List.getElem?_eq_some_iff.1 ho).1
  have hpd : p ∉ M.dead := fun hm => by
    obtain ⟨b', h1, h2⟩ := (h.dead p).1 hm
    rw [hb] at h1
    cases h1
    omega
  obtain ⟨s1, s2, s3, s4⟩ := r1
  obtain ⟨u1, u2, u3, u4, u5⟩ := q2
  refine ⟨h.good, h.pm, h.nd, h.nl, h.n1, h.sl, h.hs, h.q, by simpa using h.b120, ?_, ?_, ?_, by simpa [hrl] using h.rl, hrt, by simpa using h.ol, ?_, ?_, h.nw0, h.nw1, h.lg⟩
  · intro x hx
    rcases List.mem_or_eq_of_mem_set hx with h1 | rfl
    · exact h.each x h1
    · obtain ⟨e1, e2, e3, e4, e5, e6, _⟩ := h.each b (List.mem_of_getElem? hb)
      show 0 ≤ x.dst ∧ x.dst < M.c.d ∧ x.ten ∈ M.ns ∧ _
      rw [s1, s2, s3, s4]
      exact ⟨e1, e2, e3, e4, e5, e6, r2⟩
  · intro p'
    show p' ∈ dd ↔ ∃ b', (M.bs.set p b2)[p']? = some b' ∧ b'.st = 3
    rw [hdd]
    by_cases e : p' = p
    · subst e
      rw [List.getElem?_set_self hpl]
      by_cases h3 : b2.st = 3
      · rw [if_pos h3]
        exact ⟨fun _ => ⟨b2, rfl, h3⟩, fun _ => by simp⟩
      · rw [if_neg h3]
        refine ⟨fun hm => absurd hm hpd, fun ⟨b', e1, e2⟩ => ?_⟩
        cases e1
        exact absurd e2 h3
    · rw [List.getElem?_set_ne (fun e' => e e'.symm)]
      have : (p' ∈ if b2.st = 3 then M.dead ++ [p] else M.dead) ↔ p' ∈ M.dead := by
        split
        · simp [e]
        · rfl
      rw [this]
      exact h.dead p'
  · show dd.Nodup
    rw [hdd]
    split
    · rw [List.nodup_append]
      exact ⟨h.ddn, by simp, fun a ha c hc => by
        obtain rfl := List.mem_singleton.1 hc
        exact fun e => hpd (e ▸ ha)⟩
    · exact h.ddn
  · intro d' o' ho'
    have ho'' : (M.os.set d o2)[d']? = some o' := ho'
    by_cases e : d' = d
    · subst e
      rw [List.getElem?_set_self hdl] at ho''
      cases ho''
      obtain ⟨_, _, _, _, a5, a6, a7, a8, a9⟩ := h.os d' o ho
      show _ ∧ _ ∧ _ ∧ _ ∧ Rot M.ns.length (o2.turn, o2.cr) ∧ _ ∧ _ ∧ _ ∧ o2.began ≤ M.now
      rw [u1, u2, u3, u5]
      exact ⟨q1.1, q1.2.1, q1.2.2.1, q1.2.2.2, a5, a6, a7, a8, a9⟩
    · rw [List.getElem?_set_ne (fun e' => e e'.symm)] at ho''
      exact h.os d' o' ho''
  · intro d' o' ho'
    have ho'' : (M.os.set d o2)[d']? = some o' := ho'
    by_cases e : d' = d
    · subst e
      rw [List.getElem?_set_self hdl] at ho''
      cases ho''
      exact Or.inl u4
    · rw [List.getElem?_set_ne (fun e' => e e'.symm)] at ho''
      rcases h.way d' o' ho'' with e1 | ⟨p', b', e1, e2, e3, e4⟩
      · exact Or.inl e1
      · refine Or.inr ⟨p', b', e1, ?_, e3, e4⟩
        show (M.bs.set p b2)[p']? = some b'
        have hne : p ≠ p' := fun e' => by
          subst e'
          rw [hb] at e2
          cases e2
          omega
        rw [List.getElem?_set_ne hne]
        exact e2

/-- What a busy destination gives settle. -/
theorem Inv.setOk {M : Ag} {t d : Nat} {o : Out} {draw : Int} (h : Inv M t) (ht : t ≤ 10000000000000) (hd : 0 ≤ draw) (ho : M.os[d]? = some o) (hw : o.way ≠ -1) : ∃ p b r, SetOk M d o p b r draw ∧ b.st = 1 ∧ b.dst = d ∧ b.fl < M.c.at' := by
  obtain ⟨p, b, r, hs, h1, h2, _, h4⟩ := (h.giveOk ht hd).set ((Gave.refl M).mono0 d) ho hw
  exact ⟨p, b, r, hs, h1, h2, h4⟩

theorem over_eq {M : Ag} {d : Nat} {o : Out} {p : Nat} {b : Bat} {r : Ret} {draw : Int} (h : SetOk M d o p b r draw) (good : Bool) :
    M.over d good draw = { M with os := M.os.set d ({ o with way := -1 }.heard M.c M.now good), bs := M.bs.set p (if good then b.ended 1 0 else if M.c.at' ≤ b.fl + 1 then b.ended 3 1 else b.ended 2 1), dead := (if good then M.dead else if M.c.at' ≤ b.fl + 1 then M.dead ++ [p] else M.dead), rt := (if good then M.rt else if M.c.at' ≤ b.fl + 1 then M.rt else M.rt.set p ⟨M.now + nextPause M.c r.pa draw, nextPause M.c r.pa draw⟩) } := by
  unfold Ag.over
  rw [settled_eq h good]
  cases good
  · by_cases hd : M.c.at' ≤ b.fl + 1
    · simp only [Bool.false_eq_true, if_false, if_pos hd]
      rw [played_not0 _ (by simp [Ev.of])]
      simp only [Ev.of, if_true]
      rw [← modify_set M.bs p (fun b => b.ended 3 1) b h.hb]
      rfl
    · simp only [Bool.false_eq_true, if_false, if_neg hd]
      rw [played_not0 _ (by simp [Ev.of])]
      simp only [Ev.of]
      rw [← modify_set M.bs p (fun b => b.ended 2 1) b h.hb]
      rfl
  · simp only [if_true]
    rw [played_not0 _ (by simp [Ev.of])]
    simp only [Ev.of]
    rw [← modify_set M.bs p (fun b => b.ended 1 0) b h.hb]
    rfl

theorem Inv.over {M : Ag} {t d : Nat} {o : Out} {draw : Int} (h : Inv M t) (ht : t ≤ 10000000000000) (hd : 0 ≤ draw) (ho : M.os[d]? = some o) (hw : o.way ≠ -1) (good : Bool) : Inv (M.over d good draw) t := by
  obtain ⟨p, b, r, hs, hst, hdst, hfl⟩ := h.setOk ht hd ho hw
  obtain ⟨a1, a2, a3, a4, _⟩ := h.os d o ho
  obtain ⟨k1, k2, k3, k4, k5, k6⟩ := heard_ok { o with way := -1 } M.c M.now good a1 a2 a3 a4
  have hbd := nextPause_bd hs.c (draw := draw) hs.p1
  have hf0 := hs.f0
  rw [over_eq hs good]
  refine h.change ho hs.hb hst hdst _ k1 ⟨k2, k3, k4, k5, k6⟩ _ ?_ ?_ _ ?_ _ ?_ ?_
  · cases good
    · by_cases hx : M.c.at' ≤ b.fl + 1 <;> simp [hx, Bat.ended]
    · simp [Bat.ended]
  · cases good
    · by_cases hx : M.c.at' ≤ b.fl + 1
      · simp only [Bool.false_eq_true, if_false, if_pos hx, Bat.ended]
        refine ⟨by omega, Or.inr (Or.inr ⟨by simp, by simp; omega⟩)⟩
      · simp only [Bool.false_eq_true, if_false, if_neg hx, Bat.ended]
        refine ⟨by omega, Or.inl ⟨by simpa using hst, by simp; omega⟩⟩
    · simp only [if_true, Bat.ended]
      exact ⟨by simp; omega, Or.inr (Or.inl ⟨by simp, by simp; omega⟩)⟩
  · cases good
    · by_cases hx : M.c.at' ≤ b.fl + 1
      · simp [hx, Bat.ended]
      · simp [hx, Bat.ended, hst]
    · simp [Bat.ended]
  · cases good
    · by_cases hx : M.c.at' ≤ b.fl + 1 <;> simp [hx]
    · simp
  · intro x hx
    have : x ∈ M.rt ∨ x = ⟨M.now + nextPause M.c r.pa draw, nextPause M.c r.pa draw⟩ := by
      cases good
      · by_cases hy : M.c.at' ≤ b.fl + 1
        · simp only [Bool.false_eq_true, if_false, if_pos hy] at hx
          exact Or.inl hx
        · simp only [Bool.false_eq_true, if_false, if_neg hy] at hx
          exact List.mem_or_eq_of_mem_set hx
      · simp only [if_true] at hx
        exact Or.inl hx
    rcases this with h1 | rfl
    · exact h.rt x h1
    · exact hbd
theorem over_sends {M : Ag} {t d : Nat} {o : Out} {draw : Int} (h : Inv M t) (ht : t ≤ 10000000000000) (hd : 0 ≤ draw) (ho : M.os[d]? = some o) (hw : o.way ≠ -1) (good : Bool) (d' : Nat) : ((M.over d good draw).os[d']?).map Out.sends = (M.os[d']?).map Out.sends := by
  obtain ⟨p, b, r, hs, _⟩ := h.setOk ht hd ho hw
  obtain ⟨a1, a2, a3, a4, _⟩ := h.os d o ho
  obtain ⟨_, _, _, k4, _⟩ := heard_ok { o with way := -1 } M.c M.now good a1 a2 a3 a4
  rw [over_eq hs good]
  simp only
  rw [List.getElem?_set]
  split
  · rename_i e
    subst e
    have := (List.getElem?_eq_some_iff.1 ho).1
    rw [if_pos this, ho]
    simp only [Option.map_some]
    rw [k4]
  · rfl
end Go.Proofs.YtojpjaifhjigfaaGreatDoor

/- The invariant behind Open, Submit, Tick and Reply. -/
namespace Go.Proofs.YtojpjaifhjigfaaGreatDoor
open Go.RowKit Go.Maps

theorem Inv.more {M : Ag} {t t' : Nat} (h : Inv M t) (ht : t ≤ t') : Inv M t' :=
  ⟨h.good, h.pm, h.nd, h.nl, h.n1, h.sl, h.hs, h.q, h.b120, h.each, h.dead, h.ddn, h.rl, h.rt, h.ol, fun d o ho => by
    obtain ⟨a1, a2, a3, a4, a5, a6, a7, a8, a9⟩ := h.os d o ho
    exact ⟨a1, a2, a3, a4, a5, a6, by omega, a8, a9⟩, h.way, h.nw0, by have := h.nw1; omega, by have := h.lg; omega⟩
theorem Inv.later {M : Ag} {t : Nat} (h : Inv M t) {ms : Int} (h0 : 0 ≤ ms) (h1 : ms ≤ 60000) : Inv (M.later ms) (t + 1) :=
  ⟨h.good, h.pm, h.nd, h.nl, h.n1, h.sl, h.hs, h.q, h.b120, h.each, h.dead, h.ddn, h.rl, h.rt, h.ol, fun d o ho => by
    obtain ⟨a1, a2, a3, a4, a5, a6, a7, a8, a9⟩ := h.os d o ho
    exact ⟨a1, a2, a3, a4, a5, a6, by omega, a8, by show o.began ≤ M.now + ms; omega⟩, h.way, by have := h.nw0; show 0 ≤ M.now + ms; omega, by have := h.nw1; show M.now + ms ≤ _; omega, by have := h.lg; show M.log.length ≤ _; omega⟩
theorem Inv.logged {M : Ag} {t : Nat} (h : Inv M t) (l : List UInt8) (hl : l.length ≤ 200 * t) : Inv { M with log := l } t :=
  ⟨h.good, h.pm, h.nd, h.nl, h.n1, h.sl, h.hs, h.q, h.b120, h.each, h.dead, h.ddn, h.rl, h.rt, h.ol, h.os, h.way, h.nw0, h.nw1, hl⟩

/-- Of a destination that is not reached yet nothing has turned. -/
theorem overs_os {M : Ag} {t : Nat} {draw : Int} (h : Inv M t) (ht : t ≤ 10000000000000) (hd : 0 ≤ draw) : ∀ k, Inv (M.overs draw k) t ∧ (∀ d, k ≤ d → (M.overs draw k).os[d]? = M.os[d]?) ∧ (∀ d : Nat, ((M.overs draw k).os[d]?).map Out.sends = (M.os[d]?).map Out.sends) ∧ (M.overs draw k).log = M.log ∧ (M.overs draw k).now = M.now ∧ (M.overs draw k).c = M.c
  | 0 => ⟨h, fun _ _ => rfl, fun _ => rfl, rfl, rfl, rfl⟩
  | k + 1 => by
    obtain ⟨i1, i2, i3, i4, i5, i6⟩ := overs_os h ht hd k
    unfold Ag.overs
    cases ho : M.os[k]? with
    | none => exact ⟨i1, fun d hd' => i2 d (by omega), i3, i4, i5, i6⟩
    | some o =>
      simp only
      split
      · rename_i hw
        have ho' : (M.overs draw k).os[k]? = some o := (i2 k (Nat.le_refl _)).trans ho
        obtain ⟨p, b, r, hs, _⟩ := i1.setOk ht hd ho' hw.1
        have e := over_eq hs false
        refine ⟨i1.over ht hd ho' hw.1 false, fun d hd' => ?_, fun d => (over_sends i1 ht hd ho' hw.1 false d).trans (i3 d), by rw [e]; exact i4, by rw [e]; exact i5, by rw [e]; exact i6⟩
        rw [e]
        show ((M.overs draw k).os.set k _)[d]? = _
        rw [List.getElem?_set_ne (by omega)]
        exact i2 d (by omega)
      · exact ⟨i1, fun d hd' => i2 d (by omega), i3, i4, i5, i6⟩

theorem recB_le {es : List Ev} (h : ∀ e ∈ es, e.kind ≠ 0) : (recB 43 es).length ≤ 3 + 3 * es.length := by
  have : ∀ l : List Ev, (∀ e ∈ l, e.kind ≠ 0) → (l.flatMap Ev.bytes).length = 3 * l.length := by
    intro l
    induction l with
    | nil => simp
    | cons a l ih =>
      intro h
      have h1 : a.bytes.length = 3 := by unfold Ev.bytes; rw [if_neg (h a (by simp))]; rfl
      have h2 := ih (fun e he => h e (by simp [he]))
      simp only [List.flatMap_cons, List.length_append, List.length_cons]
      omega
  have := this es h
  unfold recB
  split
  · simp
  · rw [List.length_append, this]
    simp

theorem timed_eq {M : Ag} {draw : Int} (h : GiveOk M draw) : M.timed draw = { M.overs draw M.os.length with log := M.log ++ recB 43 (M.gaveUp draw M.os.length).2 } := by
  obtain ⟨_, _, h3⟩ := gaveUp_evs h M.os.length
  unfold Ag.timed Ag.recorded
  rw [h3, (gaveUp_gave h M.os.length).log]
theorem Inv.timed {M : Ag} {t : Nat} {draw : Int} (h : Inv M t) (ht : t ≤ 10000000000000) (hd : 0 ≤ draw) (hlg : M.log.length + 15 ≤ 200 * t) : Inv (M.timed draw) t ∧ (∀ d : Nat, ((M.timed draw).os[d]?).map Out.sends = (M.os[d]?).map Out.sends) ∧ (M.timed draw).now = M.now ∧ (M.timed draw).c = M.c := by
  have hg := h.giveOk ht hd
  obtain ⟨i1, i2, i3, i4, i5, i6⟩ := overs_os h ht hd M.os.length
  obtain ⟨h1, _, _⟩ := gaveUp_evs hg M.os.length
  have hl := gaveUp_len (M := M) (draw := draw) M.os.length
  have h4 := hg.o4
  have hr := recB_le (es := (M.gaveUp draw M.os.length).2) (fun e he => by
    obtain ⟨b, q⟩ := h1 e he
    rcases q.kd with h | h <;> omega)
  rw [timed_eq hg]
  exact ⟨i1.logged _ (by rw [List.length_append]; omega), i3, i5, i6⟩

/-- The turn goes on, and what is paid is there. -/
theorem picked_rot {o : Out} {sizes : List Nat} {quanta : List Int} {n : Nat} (hs : ∀ i, sizes.getD i 0 ≤ 64) (hq : ∀ i, i < n → 64 ≤ quanta.getD i 0 ∧ quanta.getD i 0 ≤ 1000) (h : Rot n (o.turn, o.cr)) (hall : sizes.all (· == 0) = false) (hsl : sizes.length = n) :
    Rot n ((o.picked sizes quanta).turn, (o.picked sizes quanta).cr) := by
  have hl : o.cr.length = n := h.len
  obtain ⟨s, hsd⟩ : ∃ s, turnsR sizes quanta n (o.turn, o.cr) = s := ⟨_, rfl⟩
  have hr := turnsR_rot hs hq n (o.turn, o.cr) h
  have hal : allowsR sizes (turnsR sizes quanta n (o.turn, o.cr)).1 (turnsR sizes quanta n (o.turn, o.cr)).2 = true := by
    obtain ⟨y, hy, hy0⟩ := List.all_eq_false.1 hall
    obtain ⟨i, hi, rfl⟩ := List.getElem_of_mem hy
    refine turnsR_found hs hq h (i := i) (by omega) ?_
    rw [List.getD_eq_getElem?_getD, List.getElem?_eq_getElem hi]
    simp at hy0 ⊢
    omega
  rw [hsd] at hr hal
  unfold allowsR at hal
  simp only [Bool.and_eq_true, decide_eq_true_eq] at hal
  have e : o.picked sizes quanta = { o with turn := s.1, cr := s.2.set s.1 (s.2.getD s.1 0 - sizes.getD s.1 0) } := by
    unfold Out.picked
    simp only [hl, hsd]
  rw [e]
  have ht := hr.turn
  have hlen := hr.len
  refine ⟨ht, by simpa using hlen, fun i hi => ?_, fun i hi hne => ?_, ?_⟩
  · show 0 ≤ (s.2.set s.1 _).getD i 0
    rw [getD_set (by omega)]
    split
    · omega
    · exact hr.pos i hi
  · show (s.2.set s.1 _).getD i 0 ≤ 63
    rw [getD_set (by omega), if_neg (fun e => hne e.symm)]
    exact hr.low i hi hne
  · show (s.2.set s.1 _).getD s.1 0 ≤ 1063
    rw [getD_set (by omega), if_pos rfl]
    have := hr.top
    omega

theorem Inv.sentTo {M : Ag} {t : Nat} (h : Inv M t) (ht : t ≤ 10000000000000) (d : Nat) (hsd : ∀ o, M.os[d]? = some o → o.sends + 1 ≤ t) : Inv (M.sentTo d).1 t := by
  cases ho : M.os[d]? with
  | none => unfold Ag.sentTo; rw [ho]; exact h
  | some o =>
    by_cases hc : o.way ≠ -1 ∨ (o.trip = true ∧ M.now < o.unt) ∨ (M.sizes d).all (· == 0) = true
    · rw [sentTo_not ho hc]; exact h
    · have hw : o.way = -1 := Classical.byContradiction fun e => hc (Or.inl e)
      have hop : ¬ (o.trip = true ∧ M.now < o.unt) := fun e => hc (Or.inr (Or.inl e))
      have hall : (M.sizes d).all (· == 0) = false := by
        cases e : (M.sizes d).all (· == 0) with
        | false => rfl
        | true => exact absurd (Or.inr (Or.inr e)) hc
      have hso := h.sendOk ht
      obtain ⟨a1, a2, a3, a4, a5, a6, a7, a8, a9⟩ := h.os d o ho
      have hdl := (List.getElem?_eq_some_iff.1 ho).1
      obtain ⟨x, p, ps, hx, hp, hnm⟩ := picked_head hso a5 hall
      obtain ⟨b, hb, hb1, hb2, hb3⟩ := mem_pend.1 (show p ∈ pend M.bs d x by rw [hp]; simp)
      have hrot := picked_rot (hso.sizes_le d) hso.quanta_bd a5 hall (by simp [Ag.sizes])
      rw [sentTo_eq ho hw hop hall, hnm]
      have hs1 := hsd o ho
      refine ⟨h.good, h.pm, h.nd, h.nl, h.n1, h.sl, h.hs, h.q, h.b120, h.each, h.dead, h.ddn, h.rl, h.rt, by simpa using h.ol, fun d' o' ho' => ?_, fun d' o' ho' => ?_, h.nw0, h.nw1, h.lg⟩
      · have ho'' : (M.os.set d _)[d']? = some o' := ho'
        by_cases e : d' = d
        · subst e
          rw [List.getElem?_set_self hdl] at ho''
          cases ho''
          exact ⟨a1, a2, a3, a4, hrot, by show 0 ≤ o.sends + 1; omega, hs1, h.nw0, Int.le_refl _⟩
        · rw [List.getElem?_set_ne (fun e' => e e'.symm)] at ho''
          exact h.os d' o' ho''
      · have ho'' : (M.os.set d _)[d']? = some o' := ho'
        by_cases e : d' = d
        · subst e
          rw [List.getElem?_set_self hdl] at ho''
          cases ho''
          exact Or.inr ⟨p, b, rfl, hb, hb3, hb1⟩
        · rw [List.getElem?_set_ne (fun e' => e e'.symm)] at ho''
          exact h.way d' o' ho''
theorem Inv.sentOut {M : Ag} {t : Nat} (h : Inv M t) (ht : t ≤ 10000000000000) (hsd : ∀ (d : Nat) o, M.os[d]? = some o → o.sends + 1 ≤ t) : ∀ k, Inv (M.sentOut k).1 t
  | 0 => h
  | k + 1 => (Inv.sentOut h ht hsd k).sentTo ht k (fun o ho => hsd k o (((sentOut_up M k).os k (Nat.le_refl _)).symm.trans ho))

theorem sends_of {l m : List Out} (h : ∀ d : Nat, (l[d]?).map Out.sends = (m[d]?).map Out.sends) {d : Nat} {o : Out} (ho : l[d]? = some o) : ∃ o', m[d]? = some o' ∧ o'.sends = o.sends := by
  have := h d
  rw [ho] at this
  cases hm : m[d]? with
  | none => rw [hm] at this; cases this
  | some o' => rw [hm] at this; exact ⟨o', rfl, by simpa using this.symm⟩

theorem Inv.ticked {M : Ag} {t : Nat} {ms draw : Int} (h : Inv M t) (ht : t + 1 ≤ 10000000000000) (h0 : 0 ≤ ms) (h1 : ms ≤ 60000) (hd : 0 ≤ draw) : Inv (M.ticked ms draw).1 (t + 1) := by
  have hl := h.later h0 h1
  obtain ⟨i1, i2, _⟩ := hl.timed ht hd (by have := h.lg; show M.log.length + 15 ≤ _; omega)
  refine i1.sentOut ht (fun d o ho => ?_) _
  obtain ⟨o', e1, e2⟩ := sends_of i2 ho
  obtain ⟨_, _, _, _, _, _, a7, _⟩ := h.os d o' e1
  omega
theorem Inv.tickOk {M : Ag} {t : Nat} {ms draw : Int} (h : Inv M t) (ht : t + 1 ≤ 1000000000000) (h0 : 0 ≤ ms) (h1 : ms ≤ 60000) (hd : 0 ≤ draw) : TickOk (M.later ms) draw := by
  have hl := h.later h0 h1
  obtain ⟨i1, i2, _⟩ := hl.timed (by omega) hd (by have := h.lg; show M.log.length + 15 ≤ _; omega)
  exact ⟨hl.giveOk (by omega) hd, h.b120, fun b hb => (h.sl _ (h.each b hb).2.2.1).2, h.dead_le, by have := h.lg; show M.log.length ≤ _; omega, i1.sendOk (by omega), fun d o ho => i1.destOk (by omega) d o ho⟩
end Go.Proofs.YtojpjaifhjigfaaGreatDoor

/- The invariant of a new agent, behind Submit and behind Reply; the calls with no other premise. -/
namespace Go.Proofs.YtojpjaifhjigfaaGreatDoor
open Go.RowKit Go.Maps

theorem strKeys_nodup {w : World} {b n : Nat} {D : DataW Unit} (h : OM w b n D) : (strKeys D).Nodup := by
  obtain ⟨es, rfl, hkk⟩ := h.keysOf
  obtain ⟨es', e', hpw, _⟩ := h.entries lawS
  cases e'
  show (es.map fun p => strOf p.1).Nodup
  rw [List.nodup_iff_pairwise_ne, List.pairwise_map]
  refine (List.Pairwise.imp_of_mem (fun {p q} hp hq hne he => hne ?_) hpw)
  obtain ⟨v, hv⟩ := hkk p hp
  obtain ⟨y, _, hy, _⟩ := Maps.keyOf_str Tryz.underlying9 hv
  obtain ⟨v', hv'⟩ := hkk q hq
  obtain ⟨y', _, hy', _⟩ := Maps.keyOf_str Tryz.underlying9 hv'
  rw [hy, hy'] at he ⊢
  simpa [strOf] using he

theorem inv_new {w : World} {b n : Nat} {c : Cfg} {D : DataW Unit} {ns : List (List UInt8)} (h : OM w b n D) (hg : GoodC c D) (hp : ns.Perm (strKeys D)) : Inv (Ag.new c D ns) 0 := by
  have hc := Cfg.ok hg.1
  have hsz := hg.2.1.1
  have hkv : ∀ x ∈ ns, ∃ q, At D x q ∧ okKV x q = true := fun x hx => by
    have hh := (mem_strKeys h x).1 (hp.mem_iff.1 hx)
    obtain ⟨q, hat, _⟩ := look_at h hh
    exact ⟨q, hat, hg.2.1.2 x q hat⟩
  have hln : ns.length = Maps.size D := by rw [hp.length_eq, size_strKeys h]
  have hO : ∀ (d : Nat) (o : Out), (Ag.new c D ns).os[d]? = some o → o = { res := 0, fl := 0, trip := false, unt := 0, turn := 0, cr := List.replicate ns.length 0, sends := 0, way := -1, began := 0 } := fun d o ho => by
    have := List.mem_of_getElem? ho
    exact (List.mem_replicate.1 this).2
  refine ⟨hg, hp, hp.nodup_iff.2 (strKeys_nodup h), by show ns.length ≤ 8; omega, by show 1 ≤ ns.length; omega, fun x hx => ?_, fun x => by rw [show (Ag.new c D ns).ns = ns from rfl, hp.mem_iff, mem_strKeys h]; rfl, fun x hx => ?_, by simp [Ag.new], fun b hb => by simp [Ag.new] at hb, fun p => by simp [Ag.new], by simp [Ag.new], rfl, fun r hr => by simp [Ag.new] at hr, by simp [Ag.new]; have := hc.d; omega, fun d o ho => ?_, fun d o ho => ?_, Int.le_refl _, Int.le_refl _, Nat.le_refl _⟩
  · obtain ⟨q, _, h2⟩ := hkv x hx
    simp [okKV, inB] at h2
    omega
  · obtain ⟨q, h1, h2⟩ := hkv x hx
    simp [okKV, inB] at h2
    show 64 ≤ qOf D x ∧ qOf D x ≤ 1000
    rw [qOf_at h1]
    omega
  · rw [hO d o ho]
    have := hc.wi
    refine ⟨Int.le_refl _, by show (0 : Int) < c.wi; omega, Int.le_refl _, Int.le_refl _, ⟨by show 0 < ns.length; omega, by simp [Ag.new], fun i hi => ?_, fun i hi hne => ?_, ?_⟩, Int.le_refl _, Int.le_refl _, Int.le_refl _, Int.le_refl _⟩
    all_goals (simp [List.getD_eq_getElem?_getD, List.getElem?_replicate]; split <;> simp)
  · rw [hO d o ho]
    exact Or.inl rfl

theorem recBytes_le (b : Bat) (ht : b.ten.length ≤ 16) (hid : b.id.length ≤ 16) (hbo : b.body.length ≤ 63) : (recBytes b).length ≤ 103 := by
  have := evBytes_le b ht hid hbo
  unfold recBytes
  simp
  omega

theorem Inv.taken {M : Ag} {t : Nat} {b : Bat} (h : Inv M t) (hb : M.refusal b = 0) : Inv (M.taken b) (t + 1) := by
  obtain ⟨r1, r2, r3, r4, r5, r6, r7⟩ := refusal_zero hb
  have hten := (h.hs b.ten).2 r2
  have hc := Cfg.ok h.good.1
  simp [destB] at r1
  simp [inB] at r3
  have hid : b.id.length ≤ 16 := by omega
  have hrl := recBytes_le b (h.sl _ hten).2 hid r4
  refine ⟨h.good, h.pm, h.nd, h.nl, h.n1, h.sl, h.hs, h.q, by simp [Ag.taken]; omega, ?_, ?_, h.ddn, by simp [Ag.taken, h.rl], ?_, h.ol, fun d o ho => ?_, fun d o ho => ?_, h.nw0, by have := h.nw1; show M.now ≤ _; omega, by have := h.lg; simp [Ag.taken]; omega⟩
  · intro x hx
    rcases List.mem_append.1 (show x ∈ M.bs ++ [b.fresh] from hx) with h1 | h1
    · exact h.each x h1
    · obtain rfl := List.mem_singleton.1 h1
      have := hc.at'
      exact ⟨r1.1, r1.2, hten, by show 1 ≤ b.id.length; omega, hid, r4, Int.le_refl _, Or.inl ⟨rfl, by show (0 : Int) < M.c.at'; omega⟩⟩
  · intro p
    show p ∈ M.dead ↔ ∃ b', (M.bs ++ [b.fresh])[p]? = some b' ∧ b'.st = 3
    rw [h.dead p]
    constructor
    · rintro ⟨b', e1, e2⟩
      exact ⟨b', by rw [List.getElem?_append_left (List.getElem?_eq_some_iff.1 e1).1]; exact e1, e2⟩
    · rintro ⟨b', e1, e2⟩
      by_cases hl : p < M.bs.length
      · rw [List.getElem?_append_left hl] at e1
        exact ⟨b', e1, e2⟩
      · rw [List.getElem?_append_right (by omega)] at e1
        have := List.mem_of_getElem? e1
        obtain rfl := List.mem_singleton.1 this
        cases e2
  · intro r hr
    rcases List.mem_append.1 (show r ∈ M.rt ++ [⟨M.now, M.c.ba⟩] from hr) with h1 | h1
    · exact h.rt r h1
    · obtain rfl := List.mem_singleton.1 h1
      exact ⟨Int.le_refl _, hc.ba.2⟩
  · obtain ⟨a1, a2, a3, a4, a5, a6, a7, a8, a9⟩ := h.os d o ho
    exact ⟨a1, a2, a3, a4, a5, a6, by omega, a8, a9⟩
  · rcases h.way d o ho with e | ⟨p, b', e1, e2, e3, e4⟩
    · exact Or.inl e
    · exact Or.inr ⟨p, b', e1, by show (M.bs ++ [b.fresh])[p]? = some b'; rw [List.getElem?_append_left (List.getElem?_eq_some_iff.1 e2).1]; exact e2, e3, e4⟩
theorem Inv.submitted {M : Ag} {t : Nat} (h : Inv M t) (b : Bat) : Inv (M.submitted b) (t + 1) := by
  unfold Ag.submitted
  split
  · rename_i hb; exact h.taken hb
  · exact h.more (Nat.le_succ _)

theorem replied_eq {M : Ag} {d : Nat} {o : Out} {p : Nat} {b : Bat} {r : Ret} {draw : Int} (hs : SetOk M d o p b r draw) (good : Bool) : ∃ k, k ≤ 3 ∧ k ≠ 0 ∧ ∃ f, M.replied d good draw = { M.over d good draw with log := M.log ++ recB 43 [Ev.of k p f] } := by
  have e := settled_eq hs good
  have hl : (M.settled d good draw).1.log = M.log := by
    rw [e]
    cases good
    · by_cases hx : M.c.at' ≤ b.fl + 1 <;> simp [hx, Ag.heard, Ag.paused]
    · simp [Ag.heard]
  unfold Ag.replied Ag.recorded Ag.over
  rw [hl, List.foldl_cons, List.foldl_nil]
  rw [e]
  cases good
  · by_cases hx : M.c.at' ≤ b.fl + 1
    · simp only [Bool.false_eq_true, if_false, if_pos hx]
      exact ⟨3, by omega, by omega, 1, rfl⟩
    · simp only [Bool.false_eq_true, if_false, if_neg hx]
      exact ⟨2, by omega, by omega, 1, rfl⟩
  · exact ⟨1, by omega, by omega, 0, rfl⟩
theorem Inv.replied {M : Ag} {t d : Nat} {o : Out} {draw : Int} (h : Inv M t) (ht : t + 1 ≤ 10000000000000) (hd : 0 ≤ draw) (ho : M.os[d]? = some o) (hw : o.way ≠ -1) (good : Bool) : Inv (M.replied d good draw) (t + 1) := by
  obtain ⟨p, b, r, hs, _⟩ := h.setOk (by omega) hd ho hw
  obtain ⟨k, hk, hk0, f, e⟩ := replied_eq hs good
  rw [e]
  have hl := recB_le (es := [Ev.of k p f]) (fun e he => by obtain rfl := List.mem_singleton.1 he; exact hk0)
  have := h.lg
  exact ((h.over (by omega) hd ho hw good).more (Nat.le_succ t)).logged _ (by rw [List.length_append]; simp only [List.length_singleton] at hl; omega)

/-- Submit, of an agent as it can be. -/
theorem submit_inv (A : Nat → Addr) (L : Labs) (who g t : Nat) (M : Ag) (b : Bat) (w : World) (hS : Sents.Holds w 260 gl 11 A) (hA : AgentAt w L who g M) (h : Inv M t) (ht : t ≤ 1000000000000) (hl : b.ten.length ≤ maxLen) :
    Calls Tryz.prog 27 #[.pointer (some ⟨g, 0, none⟩), batVal b] w fun e w' => e = .returned (errV A (M.refusal b)) ∧ Turned w L who g (M.submitted b) w' :=
  submit_any A L who g M b w hS hA h.b120 hl (Cfg.ok h.good.1).d.2 (fun x hx => (h.sl x ((h.hs x).2 hx)).2) (by have := h.lg; omega) (by rw [h.rl]; exact h.b120)
/-- Tick, of an agent as it can be. -/
theorem tick_inv (L : Labs) (who g t : Nat) (M : Ag) (ms draw : Int) (w : World) (hA : AgentAt w L who g M) (h : Inv M t) (ht : t + 1 ≤ 1000000000000) (h0 : 0 ≤ ms) (h1 : ms ≤ 60000) (hd : 0 ≤ draw) :
    Calls Tryz.prog 30 #[.pointer (some ⟨g, 0, none⟩), .int .i64 ms, .int .i64 draw] w fun e w' => TickedTo w L who g (M.ticked ms draw) e w' :=
  tick_good L who g M ms draw w hA (by simp [inB, h0, h1]) hd h.nw0 (by have := h.nw1; omega) (h.tickOk ht h0 h1 hd)
/-- Reply to the send that is under way, of an agent as it can be. -/
theorem reply_inv (L : Labs) (who g t d : Nat) (M : Ag) (o : Out) (good : Bool) (draw : Int) (w : World) (hA : AgentAt w L who g M) (h : Inv M t) (ht : t + 1 ≤ 1000000000000) (hd : 0 ≤ draw) (ho : M.os[d]? = some o) (hw : o.way ≠ -1) :
    Calls Tryz.prog 31 #[.pointer (some ⟨g, 0, none⟩), .int .i64 d, .int .i64 o.sends, .bool good, .int .i64 draw] w fun e w' => e = .returned .nilIface ∧ Turned w L who g (M.replied d good draw) w' := by
  obtain ⟨p, b, r, hs, h1, h2, h3⟩ := h.setOk (by omega) hd ho hw
  have hc := Cfg.ok h.good.1
  obtain ⟨q1, q2, q3, _⟩ := h.each b (List.mem_of_getElem? hs.hb)
  have hdl := (List.getElem?_eq_some_iff.1 ho).1
  have hol := h.ol
  exact reply_good L who g d p M o b r o.sends good draw w hA (by simp [destB]; omega) hs rfl h1 ⟨q1, by have := hc.d; omega⟩ (h.sl _ q3).2 h.b120 h.dead_le (by have := h.lg; omega)
end Go.Proofs.YtojpjaifhjigfaaGreatDoor
