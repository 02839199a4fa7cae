/- hasDestination, misfit, refusal: why a batch is not taken. -/
import Derived.Test.YtojpjaifhjigfaaGreatDoorAdmit
namespace Go.Proofs.YtojpjaifhjigfaaGreatDoor
open Go.RowKit Go.Maps

/-- An error by the number that the document gives it. -/
def errV (A : Nat → Addr) : Nat → Value
  | 0 => .nilIface
  | k + 1 => ev A k
def destB (M : Ag) (d : Int) : Bool := decide (0 ≤ d) && decide (d < M.c.d)
/-- Why a batch could not be taken by an agent with nothing pending (0: it could). -/
def Ag.misfit (M : Ag) (b : Bat) : Nat :=
  if destB M b.dst = false then 3 else if Maps.has M.D (.string b.ten) = false then 4 else if inB b.id.length 1 16 = false then 5 else if 63 < b.body.length then 6 else if findId M.bs b.id ≠ -1 then 7 else if 120 ≤ M.bs.length then 8 else 0
/-- Why a batch is refused. -/
def Ag.refusal (M : Ag) (b : Bat) : Nat := if M.misfit b ≠ 0 then M.misfit b else if M.c.q ≤ waits M.bs b.ten then 9 else 0

set_option maxHeartbeats 400000 in
theorem hasDest_any (L : Labs) (who g : Nat) (M : Ag) (d : Int) (w : World) (h : AgentAt w L who g M) : Calls Tryz.prog 71 #[.pointer (some ⟨g, 0, none⟩), .int .i64 d] w fun e w' => e = .returned (.bool (destB M d)) ∧ w' = w := by
  have c4 : w.cell? ⟨g, 4, none⟩ = some (.int .i64 M.c.d) := by obtain ⟨bq, bm, cn, tv, dv, nv, rv, ov, h⟩ := h; exact h.blk.1.cell 4
  clear h
  unfold destB
  by_cases h0 : 0 ≤ d
  · go_enter Tryz.func71, Tryz.ntmps71
    go_wp2
    go_ret
    simp [h0]
  · go_enter Tryz.func71, Tryz.ntmps71
    go_wp2
    go_ret
    simp
    omega

set_option maxRecDepth 100000 in
set_option maxHeartbeats 2000000 in
theorem misfit_any (A : Nat → Addr) (L : Labs) (who g : Nat) (M : Ag) (b : Bat) (w : World) (hS : Sents.Holds w 260 gl 11 A) (h : AgentAt w L who g M) (hb : M.bs.length ≤ 120) (ht : b.ten.length ≤ maxLen) :
    Calls Tryz.prog 108 #[.pointer (some ⟨g, 0, none⟩), batVal b] w fun e w' => e = .returned (errV A (M.misfit b)) ∧ Below w.heap.size w w' := by
  have HA := hide h
  have HS := hide hS
  obtain ⟨bq, bm, cn, tv, dv, nv, rv, ov, h⟩ := h
  have c5 : w.cell? ⟨g, 5, none⟩ = some (.map (some bm)) := h.blk.1.cell 5
  have hgl := h.blk.1.lt
  have hlook : ∀ w' : World, Below w.heap.size w w' → ∃ v, (Instr.lookup 22 (.map (some bm)) (encStr b.ten) true).run Tryz.prog w' = .ok (.tuple #[v, .bool (Maps.has M.D (.string b.ten))]) w' := fun w' hb' => by
    obtain ⟨v, ps, h1, _⟩ := (ownsMap_of_block h.cm.1 (hb'.block bm h.cm.1.lt)).look_ok lawS Tryz.underlying22 (zeroInt w') (plainElem_int Tryz.underlying3 (by decide)) (keyStr ht)
    exact ⟨v, h1⟩
  obtain ⟨v0, hl0⟩ := hlook ((w.alloc (.cells #[.int .i64 b.dst, encStr b.ten, encStr b.id, encStr b.body] 45)).drew) (((Below.refl _ _).alloc (Nat.le_refl _) _).drew)
  clear h hS hlook
  unfold batVal
  go_enter Tryz.func108, Tryz.ntmps108
  go_upto_region 1 with fail
  go_cut [6] (fun s6 wx => s6 = .bool (Maps.has M.D (.string b.ten)) ∧ wx = (w.alloc (.cells #[.int .i64 b.dst, encStr b.ten, encStr b.id, encStr b.body] 45)).drew)
  case first =>
    go_region
    all_goals (go_wp2_with fail; go_meet; exact ⟨rfl, rfl⟩)
  case rest =>
  obtain ⟨rfl, rfl⟩ := hcut
  clear hl0
  go_wp2_with fail
  generalize hV : World.drew (World.alloc (World.alloc w _) _) = V
  have hBV : Below w.heap.size w V := by rw [← hV]; exact (((Below.refl _ _).alloc (Nat.le_refl _) _).alloc (by simp) _).drew
  have hNV : Blk V w.heap.size #[.int .i64 b.dst, encStr b.ten, encStr b.id, encStr b.body] 45 := by rw [← hV]; exact (Blk.new w _ _).alloc _
  have hMV : Blk V (w.heap.size + 1) #[.int .i64 b.id.length, .int .i64 1, .int .i64 16] 130 := by rw [← hV]; exact Blk.made (by simp) _ _
  have hAV := HA.out.keep (Step.of_below (p := fun _ => False) (L := L) hBV) (fun _ h => h)
  have m0 : V.cell? ⟨w.heap.size + 1, 0, none⟩ = some (.int .i64 b.id.length) := hMV.cell 0
  have m1 : V.cell? ⟨w.heap.size + 1, 1, none⟩ = some (.int .i64 1) := hMV.cell 1
  have m2 : V.cell? ⟨w.heap.size + 1, 2, none⟩ = some (.int .i64 16) := hMV.cell 2
  have q2 := (HS.out.below hBV).cell 2 (by decide)
  have q3 := (HS.out.below hBV).cell 3 (by decide)
  simp only [gl, List.getD_cons_zero, List.getD_cons_succ] at q2 q3
  have HAV := hide hAV
  have HNV := hide hNV
  have HBV := hide hBV
  clear hV hAV hNV hBV hMV c5
  refine (hasDest_any L who g M b.dst V HAV.out).mono ?_
  rintro e w' ⟨rfl, rfl⟩
  cases hd : destB M b.dst
  · go_wp2_with fail
    go_ret
    exact ⟨by simp [Ag.misfit, hd, errV, ev], HBV.out⟩
  · cases hh : Maps.has M.D (.string b.ten)
    · go_wp2_with fail
      go_ret
      exact ⟨by simp [Ag.misfit, hd, hh, errV, ev], HBV.out⟩
    · clear q2 q3
      go_wp2_with fail
      refine (holds_any b.id.length 1 16 _).mono ?_
      rintro e w2 ⟨rfl, hb2⟩
      have hB2 : Below w.heap.size w w2 := HBV.out.trans (hb2.mono HBV.out.size)
      have q4 := (HS.out.below hB2).cell 4 (by decide)
      have q5 := (HS.out.below hB2).cell 5 (by decide)
      simp only [gl, List.getD_cons_zero, List.getD_cons_succ] at q4 q5
      have hN2 : Blk w2 w.heap.size #[.int .i64 b.dst, encStr b.ten, encStr b.id, encStr b.body] 45 := HNV.out.below hb2 HNV.out.lt
      have n2 : w2.cell? ⟨w.heap.size, 2, none⟩ = some (encStr b.id) := hN2.cell 2
      have n3 : w2.cell? ⟨w.heap.size, 3, none⟩ = some (encStr b.body) := hN2.cell 3
      have HB2 := hide hB2
      have HN2 := hide hN2
      have hlt2 := hN2.lt
      clear hb2 hB2 hN2 m0 m1 m2
      cases hi : inB b.id.length 1 16
      · go_wp2_with fail
        go_ret
        exact ⟨by simp [Ag.misfit, hd, hh, hi, errV, ev], HB2.out⟩
      · by_cases h6 : 63 < b.body.length
        · have h6I : (63 : Int) < (b.body.length : Int) := by omega
          go_wp2_with fail
          go_ret
          exact ⟨by simp [Ag.misfit, hd, hh, hi, h6, errV, ev], HB2.out⟩
        · have h6I : ¬ (63 : Int) < (b.body.length : Int) := by omega
          clear q4 q5
          have HP : Hid (∀ w1 : World, Below w.heap.size w w1 → Calls Tryz.prog 75 #[.pointer (some ⟨g, 0, none⟩), encStr b.id] w1 fun e w' => e = .returned (.int .i64 (findId M.bs b.id)) ∧ Below w1.heap.size w1 w') := fun w1 h1 => pPlace_any L who g M b.id w1 (HA.out.keep (Step.of_below (p := fun _ => False) (L := L) h1) (fun _ h => h)) hb
          generalize hf : findId M.bs b.id = f at *
          have Hf := hide hf
          by_cases h7 : f = -1
          · subst h7
            obtain ⟨k, hk⟩ : ∃ k : Nat, k = M.bs.length := ⟨_, rfl⟩
            have Hk := hide hk
            clear hf
            go_wp2_with fail
            go_region_with ((go_at_call 75; refine (HP.out _ (by exact HB2.out.drew)).mono ?_; rintro e w3 ⟨rfl, hb3⟩; have hB3 : Below w.heap.size w w3 := HB2.out.drew.trans (hb3.mono HB2.out.size); have HB3 := hide hB3; have HS3 := hide (HS.out.below hB3); have HA3 := hide (HA.out.keep (Step.of_below (p := fun _ => False) (L := L) hB3) (fun _ h => h)); clear hb3 hB3))
            all_goals
              have q7 := HS3.out.cell 7 (by decide)
              simp only [gl, List.getD_cons_zero, List.getD_cons_succ] at q7
              obtain ⟨bq', bm', cn', tv', dv', nv', rv', ov', h3⟩ := HA3.out
              obtain ⟨ta, tc, rfl, _⟩ := h3.tk.shape
              have z0 : w3.cell? ⟨g, 0, none⟩ = some (.slice ta M.bs.length tc) := h3.blk.1.cell 0
              clear h3
              by_cases h8 : 120 ≤ M.bs.length
              · have h8I : (120 : Int) ≤ (M.bs.length : Int) := by omega
                go_wp2_with fail
                go_ret
                exact ⟨by simp [Ag.misfit, hd, hh, hi, h6, Hf.out, h8, errV, ev], HB3.out⟩
              · have h8I : ¬ (120 : Int) ≤ (M.bs.length : Int) := by omega
                go_wp2_with fail
                go_ret
                exact ⟨by simp [Ag.misfit, hd, hh, hi, h6, Hf.out, h8, errV], HB3.out⟩
          · clear hf
            go_wp2_with fail
            go_region_with ((go_at_call 75; refine (HP.out _ (by exact HB2.out.drew)).mono ?_; rintro e w3 ⟨rfl, hb3⟩; have hB3 : Below w.heap.size w w3 := HB2.out.drew.trans (hb3.mono HB2.out.size); have HB3 := hide hB3; have HS3 := hide (HS.out.below hB3); have HA3 := hide (HA.out.keep (Step.of_below (p := fun _ => False) (L := L) hB3) (fun _ h => h)); clear hb3 hB3))
            all_goals
              have q6 := HS3.out.cell 6 (by decide)
              simp only [gl, List.getD_cons_zero, List.getD_cons_succ] at q6
              go_wp2_with fail
              go_ret
              exact ⟨by simp [Ag.misfit, hd, hh, hi, h6, Hf.out, h7, errV, ev], HB3.out⟩
end Go.Proofs.YtojpjaifhjigfaaGreatDoor
