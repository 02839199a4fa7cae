/- conduitkeep.Fair. -/
import Derived.Test.YtojpjaifhjigfaaGreatDoorMFair11
namespace Go.Proofs.YtojpjaifhjigfaaGreatDoor
open Go.RowKit Go.Maps
attribute [local go_sem] run_store_float

set_option maxRecDepth 100000 in
set_option maxHeartbeats 8000000 in
theorem fair_any (A : Nat → Addr) (la sa : Option Addr) (cap scap : Nat) (zs szs : List Int) (w : World) (hS : Sents.Holds w 260 gl 11 A) (hr : ∀ z ∈ zs, InR z) (h : IntsAt w la zs) (hr2 : ∀ z ∈ szs, InR z) (h2 : IntsAt w sa szs) :
    Calls Tryz.prog 12 #[.slice la zs.length cap, .slice sa szs.length scap] w fun e w' => e = .returned (.bool true) ∧ Below w.heap.size w w' := by
  have HMade := hide (made_any la cap zs w hr h)
  have HS := hide hS
  have HRaw := hide (fun (W : World) (k : Nat) (hW : Below w.heap.size w W) => (kraw_any sa scap szs k W (h2.below hW)).mono (fun e w' (h : e = _ ∧ w' = W) => (⟨h.1, h.2.symm⟩ : e = .returned (.int .i64 (szs.getD k 0)) ∧ W = w')))
  have HPick := hide (fun (W : World) (k : Nat) => (kpick_at szs hr2 k 64 64 rfl (by omega) W).mono (fun e w' (h : e = _ ∧ w' = W) => (⟨h.1, h.2.symm⟩ : e = .returned (.int .i64 (pickN (szs.getD k 0) 64)) ∧ W = w')))
  obtain ⟨N, hN⟩ : ∃ N, N = 1 + pickN (zs.getD 9 0) 4 := ⟨_, rfl⟩
  have hN1 : 1 ≤ N := by omega
  have hN4 : N ≤ 4 := by have := pickN_lt (zs.getD 9 0) (n := 4) (by omega); omega
  rw [← hN] at HMade
  have HN := hide hN
  generalize zs.length = nz at *
  generalize szs.length = nsz at *
  clear h hr hS h2 hr2 hN
  go_enter Tryz.func12, Tryz.ntmps12
  go_wp2_with fail
  refine HMade.out.mono ?_
  rintro e w1 ⟨b, rfl, hb, ⟨n, hn, hM⟩, hB1⟩
  have HM := hide hM
  have HB1 := hide hB1
  have hbl : b < w1.heap.size := hM.lt
  clear hM hB1
  go_wp2_with fail
  generalize hW : World.alloc w1 _ = W
  have hC : Blk W w1.heap.size ((madeC zs).cells (some b)) 25 := by rw [← hW]; exact Blk.new w1 _ _
  have hBW : Below w.heap.size w W := by rw [← hW]; exact HB1.out.alloc HB1.out.size _
  have hMW : OM W b n (DT (madeT zs N)) := by rw [← hW]; exact HM.out.alloc _
  have hgc : w.heap.size ≤ w1.heap.size := HB1.out.size
  have HO := hide (lopen zs szs b n N HN.out w W hn hMW hBW)
  have HC := hide hC
  have HMW := hide hMW
  clear hW hC hBW hMW HM
  generalize w1.heap.size = gc at *
  refine HO.out.mono ?_
  rintro e w2 ⟨g, M, L, rfl, hSu, hns, hK, hB2, hL2, hL3⟩
  have HSu := hide hSu
  have Hns := hide hns
  have HK := hide hK
  have HC2 : Hid (BlkAt w2 L none gc ((madeC zs).cells (some b)) 25) := ⟨HC.out.below hB2 HC.out.lt, hL2 gc HC.out.lt⟩
  have HM2 : Hid (OM w2 b n (DT (madeT zs N)) ∧ L b = none) := ⟨om_below HMW.out hB2 HMW.out.lt, hL2 b HMW.out.lt⟩
  have hLn : L w2.heap.size = none := hL3 _ (Nat.le_refl _)
  have HL3 := hide hL3
  have HLn := hide hLn
  clear hSu hns hK hB2 hL2 hL3 hLn HO HC HMW
  have d1 : w2.cell? ⟨gc, 1, none⟩ = some (.map (some b)) := HC2.out.1.cell 1
  have hsz : Maps.size (DT (madeT zs N)) = N := by
    rw [← size_strKeys HM2.out.1, made_keys zs hN1 hN4, List.length_take]
    show min N 4 = N
    omega
  obtain ⟨⟨es, clock, hes, hes2⟩, hLb⟩ := HM2.out
  have hlen : ∀ (W : World), W.heap[b]? = some (.map es clock) → ∀ ty, (Builtin.len_ #[22] ty #[.map (some b)]).run Tryz.prog W = .ok (.int .i64 N) W := fun W hW ty => by
    have := World.ownsMap.len (n := n) (R := plainElem Tryz.prog 3) (w := W) (D := DT (madeT zs N)) ⟨es, clock, hW, hes2⟩ Tryz.underlying22 ty
    rw [hsz] at this
    exact this
  have hl0 := hlen w2.drew hes
  have hl1 := fun o => hlen (w2.drew.alloc o) ((Below.heap_alloc _ _ _ (Array.getElem?_eq_some_iff.1 hes).1).trans hes)
  have hl2 := fun o => hlen (w2.alloc o).drew ((Below.heap_alloc _ _ _ (Array.getElem?_eq_some_iff.1 hes).1).trans hes)
  have hgl : gc < w2.heap.size := HC2.out.1.lt
  have hN0I : (0 : Int) ≤ (N : Int) := by omega
  have hN4I : (N : Int) ≤ 4 := by omega
  clear hes hes2 hlen hsz
  go_wp2_with fail
  go_cut [8] (fun s8 wx => s8 = .slice (some ⟨w2.heap.size, 0, none⟩) N 4 ∧ Blk wx w2.heap.size #[encStr [97], encStr [98], encStr [99], encStr [100]] 9 ∧ Below w2.heap.size w2 wx)
  case first =>
    go_region_with ((go_at_call 38; refine (knames_any _).mono ?_; rintro _ _ ⟨rfl, rfl⟩))
    all_goals
      go_wp2_with fail
      go_meet
      exact ⟨rfl, Blk.new w2 _ _, ((Below.refl _ _).alloc (Nat.le_refl _) _).drew⟩
  case rest =>
    obtain ⟨rfl, hgnB, hB3⟩ := hcut
    have HK3 := hide (HK.out.below hB3)
    have hgn : w.heap.size ≤ w2.heap.size := HK.out.b.size
    have HF3 : Hid (FAt zs N w wc L gc b w2.heap.size) := by
      obtain ⟨q1, q2⟩ := HC2.out
      obtain ⟨q3, q4⟩ := HM2.out
      exact ⟨⟨q1.below hB3 q1.lt, q2⟩, ⟨n, hn, om_below q3 hB3 q3.lt, q4⟩, ⟨hgnB, HLn.out⟩, hgc, hgn⟩
    obtain ⟨E, hE⟩ : ∃ E, E = 100 / N := ⟨_, rfl⟩
    obtain ⟨T, hT⟩ : ∃ T, T = E * N := ⟨_, rfl⟩
    have hT100 : T ≤ 100 := by rw [hT, hE]; exact Nat.div_mul_le_self 100 N
    have hE1 : 25 ≤ E := by rw [hE]; exact (Nat.le_div_iff_mul_le hN1).2 (by omega)
    have hE100 : E ≤ 100 := by rw [hE]; exact Nat.div_le_self _ _
    have hdiv : Int.tdiv 100 (N : Int) = (E : Int) := by rw [hE]; rfl
    have hdiv2 : (100 : Int) / (N : Int) = (E : Int) := by rw [hE]; rfl
    have hTI : (E : Int) * (N : Int) = (T : Int) := by rw [hT]; simp
    have hN0 : ¬ ((N : Int) = 0) := by omega
    have HT := hide hT
    have HE := hide hE
    clear hgnB hB3 HK HC2 HM2 HLn HL3 hl0 hl1 hl2 d1 hLb hT hE hgl hbl
    generalize w2.heap.size = gn at *
    go_wp2_with fail
    go_loopw [10] (fun i wr => ∃ (k : Nat) (M : Ag) (L : Labs), k ≤ T ∧ i = .int .i64 k ∧ FSub zs szs N k M ∧ M.ns = kn.take N ∧ KL w wr L g k M ∧ FAt zs N w wr L gc b gn) (fun i _ => T - (intOf i).toNat)
    case atStart => exact ⟨0, M, L, Nat.zero_le _, rfl, HSu.out, Hns.out, HK3.out, HF3.out⟩
    case round =>
      clear HSu Hns HK3 HF3
      obtain ⟨k, M, L, hk, rfl, hSu, hns, hK, hF⟩ := hrel
      by_cases hlt : k < T
      · have hltI : (k : Int) < (T : Int) := by omega
        obtain ⟨r, hr⟩ : ∃ r, r = k % N := ⟨_, rfl⟩
        have hrN : r < N := by rw [hr]; exact Nat.mod_lt _ hN1
        have hmod : (k : Int) % (N : Int) = (r : Int) := by rw [hr]; rfl
        have hmod2 : Int.tmod (k : Int) (N : Int) = (r : Int) := by rw [hr]; rfl
        have hN0n : ¬ (N = 0) := by omega
        have hrI : (r : Int) < (N : Int) := by omega
        have hrI0 : (0 : Int) ≤ (r : Int) := by omega
        obtain ⟨x, hx⟩ : ∃ x, kn.getD r [] = x := ⟨_, rfl⟩
        have HCell : Hid (∀ W, Below wr.heap.size wr W → W.cell? ⟨gn, r, none⟩ = some (encStr x)) := fun W hW => by
          rw [← hx]
          exact (hF.below hW).name (by omega)
        have c0 := HCell.out wr (Below.refl _ _)
        obtain ⟨p, hp⟩ : ∃ p, pickN (szs.getD k 0) 64 = p := ⟨_, rfl⟩
        have hp64 : p < 64 := by rw [← hp]; exact pickN_lt _ (by omega)
        obtain ⟨z, hz⟩ : ∃ z, szs.getD k 0 = z := ⟨_, rfl⟩
        have HRaw1 : Hid (∀ W, Below wr.heap.size wr W → Calls Tryz.prog 29 #[.slice sa nsz scap, .int .i64 k] W fun e w' => e = .returned (.int .i64 z) ∧ W = w') := fun W hW => by
          have := HRaw.out W k (hK.b.trans (hW.mono hK.b.size))
          rw [hz] at this
          exact this
        have HPick1 : Hid (∀ W, Calls Tryz.prog 28 #[.int .i64 z, .int .i64 64] W fun e w' => e = .returned (.int .i64 p) ∧ W = w') := fun W => by
          have := HPick.out W k
          rw [hp, hz] at this
          exact this
        have HBody : Hid (∀ W, Calls Tryz.prog 39 #[.int .i64 p] W fun e w' => e = .returned (encStr (kbody p)) ∧ Below W.heap.size W w') := fun W => kbody_any p W (by omega)
        have HSub : Hid (∀ W, Below wr.heap.size wr W → Calls Tryz.prog 27 #[.pointer (some ⟨g, 0, none⟩), .agg #[.int .i64 0, encStr x, encStr (kid k), encStr (kbody p)]] W fun e w3 => e = .returned .nilIface ∧ ∃ L', KL w w3 L' g (k + 1) (M.submitted (fbat szs N k)) ∧ FAt zs N w w3 L' gc b gn) := fun W hW => by
          subst hx hp hr
          refine (lsubmit A HS.out (hK.below hW) (by omega) (fbat szs N k) (by show (kn.getD (k % N) []).length ≤ maxLen; rcases (by omega : k % N = 0 ∨ k % N = 1 ∨ k % N = 2 ∨ k % N = 3) with e | e | e | e <;> rw [e] <;> simp [kn, maxLen])).mono ?_
          rintro e w3 ⟨rfl, L', h1, h2⟩
          rw [hSu.ok hN1 (by omega)]
          exact ⟨rfl, L', h1, (hF.below hW).keep h2 not_none⟩
        have HNx := hide (hSu.next hN1 (by omega))
        have Hnx : Hid ((M.submitted (fbat szs N k)).ns = kn.take N) := (submitted_ns _ _).trans hns
        have Hx := hide hx
        generalize hM' : M.submitted (fbat szs N k) = M' at *
        clear hSu hns hK hF hr hx hp hz hM'
        go_wp2_with fail
        go_cut [11] (fun s11 wx => s11 = .nilIface ∧ ∃ L', KL w wx L' g (k + 1) M' ∧ FAt zs N w wx L' gc b gn)
        case first =>
          go_region_held3 (fun w' => w'.cell? ⟨gn, r, none⟩ = some (encStr x)) (go_keep)
            (first
              | (go_at_call 37; refine (kid_any k _ (by omega)).mono ?_; rintro _ w3 ⟨rfl, hb3⟩; have HB3 : Hid (Below wr.heap.size wr w3) := (by first | exact hb3 | exact ((Below.refl wr.heap.size wr).drew).trans hb3); have c3 := HCell.out w3 HB3.out; clear hb3)
              | (go_at_call 29; refine (HRaw1.out _ HB3.out).mono ?_; rintro _ _ ⟨rfl, rfl⟩)
              | (go_at_call 28; refine (HPick1.out _).mono ?_; rintro _ _ ⟨rfl, rfl⟩)
              | (go_at_call 39; refine (HBody.out _).mono ?_; rintro _ w4 ⟨rfl, hb4⟩; have HB4 : Hid (Below wr.heap.size wr w4) := HB3.out.trans (hb4.mono HB3.out.size); have c4 := HCell.out w4 HB4.out; clear hb4)
              | (go_at_call 27; refine (HSub.out _ HB4.out).mono ?_; rintro _ w5 ⟨rfl, hT5⟩; have HT5 := hide hT5; obtain ⟨L5, hK5, hF5⟩ := hT5; have c5 : w5.cell? ⟨gn, r, none⟩ = some (encStr x) := Hx.out ▸ hF5.name (Nat.lt_of_lt_of_le hrN hN4); clear hK5 hF5))
          all_goals
            go_wp2_with fail
            go_meet
            exact ⟨rfl, HT5.out⟩
        case rest =>
          obtain ⟨rfl, L', hK', hF'⟩ := hcut
          have HK' := hide hK'
          have HF' := hide hF'
          clear hK' hF'
          go_wp2_with fail
          go_roundw
          case rel => exact ⟨k + 1, M', L', by omega, by go_num, HNx.out, Hnx.out, HK'.out, HF'.out⟩
          case measure => simp [intOf]; omega
      · have hkT : k = T := by omega
        obtain ⟨o, hR, hs0⟩ := (show FSub zs szs N T M from hkT ▸ hSu).start hK.inv (by omega) hN1 hN4 hns
        have HSt := hide (FSt.start hK hF hSu.D hSu.c)
        have HR := hide hR
        have Hs0 := hide hs0
        have hgtI : ¬ ((k : Int) < (T : Int)) := by omega
        have hmk := fun w => run_make_row' (P := Tryz.prog) 51 3 (.int .i64 0) 8 Tryz.underlying51 infoIntE rfl .i64 .i64 N (by omega) (by omega) w
        have hk100 : k ≤ 100 := by omega
        clear hSu hns hK hF hR hs0 HRaw HPick hlt hkT
        go_wp2_with fail
        generalize hV : World.alloc (World.alloc wr _) _ = V at *
        generalize wr.heap.size = gg at *
        clear hV hmk hgtI hk
        go_loopw [14] (fun i wr => ∃ (gone : Nat → Nat) (by' : Nat → Int) (M : Ag) (L : Labs) (o : Out) (t s : Nat), s = gsum gone N ∧ i = .int .i64 ((s : Int) + 1) ∧ (∀ j, j < N → gone j < E) ∧ (∀ j, j < N → 0 ≤ by' j ∧ by' j ≤ 64 * gone j) ∧ FRun szs N T gone by' M o ∧ o.sends = s ∧ t ≤ 100 + 2 * s ∧ FSt zs N w wr L g gc b gn gg t gone by' M) (fun i _ => 400 - (intOf i).toNat)
        case atStart =>
          obtain ⟨L', h'⟩ := HSt.out
          exact ⟨fun _ => 0, fun _ => 0, M, L', o, k, 0, (gsum_zero N).symm, rfl, fun j _ => (show 0 < E by omega), fun j _ => by simp, HR.out, Hs0.out, by omega, h'⟩
        case round =>
          clear HSt HR Hs0
          obtain ⟨gone, by', M, L, o, t, s, hs, rfl, hlt, hbd, hR, hsn, ht, hSt⟩ := hrel
          have hsT : s ≤ 100 := by
            have := gsum_le gone E N (fun j hj => Nat.le_of_lt (hlt j hj))
            rw [Nat.mul_comm, ← HT.out] at this
            omega
          obtain ⟨M', sd, o', wh, he, hG, hBal⟩ := hR.goes hSt.k.inv (by omega) hN1 hN4 (fun j hj => by rw [HT.out]; exact next_lt hj (hlt j hj))
          have hwN : wh < N := hG.lt
          have hwT : wh + N * gone wh < T := by rw [HT.out]; exact next_lt hwN (hlt wh hwN)
          have HTick := hide (ltick1 hSt.k (by omega) (ms := 0) (by omega) (by omega) he hSt.f.n.1.lt hSt.f.n.2)
          obtain ⟨p, hp⟩ : ∃ p, pickN (szs.getD (wh + N * gone wh) 0) 64 = p := ⟨_, rfl⟩
          have hp64 : p < 64 := by rw [← hp]; exact pickN_lt _ (by omega)
          have Htr : Hid (sd.try' = (s : Int) + 1) := by rw [hG.tr, hsn]; rfl
          obtain ⟨K, hKe⟩ : ∃ K, wh + N * gone wh = K := ⟨_, rfl⟩
          have Hid' : Hid (sd.id = kid K) := by rw [hG.id, hKe]; rfl
          have Hbo : Hid (sd.body = kbody p) := by rw [hG.body, hp]; rfl
          have hgw : gone wh < 100 := by have := hlt wh hwN; omega
          obtain ⟨by2, hby2⟩ : ∃ by2 : Nat → Int, by2 = fun i => if i = wh then by' i + (p + 1 : Nat) else by' i := ⟨_, rfl⟩
          have HBal : Hid (Bal N M.quanta by2 (o'.turn, o'.cr)) := by rw [hby2, ← hp]; exact hBal
          have HG := hide hG
          have HSt := hide hSt
          have HR := hide hR
          have Hs := hide hs
          have Hsn := hide hsn
          have Hlt := hide hlt
          have Hbd := hide hbd
          have Hby2 := hide hby2
          have HKe := hide hKe
          clear hG hSt hR hs hsn hlt hbd hby2 hKe hBal he hp
          go_wp2_with fail
          refine HTick.out.mono ?_
          rintro e w3 ⟨gr, rcap, L3, rfl, hc3, hgr, hgrL, hK3, hs3⟩
          have hSt3 : FSt zs N w w3 L3 g gc b gn gg (t + 1) gone by' M' := HSt.out.step hK3 hs3 HG.out.same.2.1 HG.out.same.1
          have d1 : w3.cell? ⟨gr, 1, none⟩ = some (.int .i64 ((s : Int) + 1)) := by rw [← Htr.out]; exact hc3 1 _ rfl
          have HD2 : Hid (w3.cell? ⟨gr, 2, none⟩ = some (encStr (kid K))) := by rw [← Hid'.out]; exact hc3 2 _ rfl
          have HD3 : Hid (w3.cell? ⟨gr, 3, none⟩ = some (encStr (kbody p))) := by rw [← Hbo.out]; exact hc3 3 _ rfl
          have hg1 : gr ≠ gg := fun e => hgrL (e ▸ hSt3.r.2)
          have hg2 : gr ≠ gg + 1 := fun e => hgrL (e ▸ hSt3.s.2)
          have HSt3 := hide hSt3
          clear hc3 hK3 hs3 hSt3 hgrL HTick
          go_wp2_with fail
          clear d1
          go_loopw [17, 18] (fun who i wr => ∃ j : Nat, j ≤ N ∧ i = .int .i64 j ∧ who = .int .i64 (whoV wh j) ∧ Below w3.heap.size w3 wr) (fun _ i _ => N - (intOf i).toNat)
          case atStart => exact ⟨0, Nat.zero_le _, rfl, by rw [whoV_zero], Below.refl _ _⟩
          case round =>
            obtain ⟨j, hj, rfl, rfl, hnx⟩ := hrel
            have Hnx := hide hnx
            by_cases hjN : j < N
            · have hjI : (j : Int) < (N : Int) := by omega
              obtain ⟨gj, hgj⟩ : ∃ gj, gone j = gj := ⟨_, rfl⟩
              obtain ⟨m, hm⟩ : ∃ m, m = N * gj := ⟨_, rfl⟩
              have hmI : (N : Int) * (gj : Int) = (m : Int) := by rw [hm]; simp
              have hjm : j + m < 100 := by
                have := next_lt hjN (Hlt.out j hjN)
                rw [hgj, ← hm, ← HT.out] at this
                omega
              have HCE : Hid (∀ W, Below w3.heap.size w3 W → W.cell? ⟨gg, j, none⟩ = some (.int .i64 gj)) := fun W hW => by rw [← hgj]; exact (HSt3.out.below hW).gone hjN
              have HCI : Hid (∀ W, Below w3.heap.size w3 W → W.cell? ⟨gr, 2, none⟩ = some (encStr (kid K))) := fun W hW => (hW.cell (p := ⟨gr, 2, none⟩) hgr).trans HD2.out
              have e1 := HCE.out wr hnx
              have e2 := HCI.out wr hnx
              have Hcmp : Hid ((kid K == kid (j + m)) = decide (j = wh)) := by
                show (kid K == kid (j + m)) = decide (j = wh)
                have hKT : K < 100 := by rw [← HKe.out]; omega
                by_cases hjw : j = wh
                · subst hjw
                  rw [← HKe.out, hm, hgj]
                  simp
                · rw [decide_eq_false hjw, beq_eq_false_iff_ne]
                  intro h
                  have := kid_inj (by omega) (by omega) h
                  rw [← HKe.out, hm, ← hgj] at this
                  exact hjw (next_inj hjN hwN this.symm)
              have HId : Hid (∀ W, Calls Tryz.prog 37 #[.int .i64 ((j : Int) + (m : Int))] W fun e w' => e = .returned (encStr (kid (j + m))) ∧ Below W.heap.size W w') := fun W => kid_any (j + m) W (by omega)
              generalize kid K = y1 at *
              generalize kid (j + m) = y2 at *
              have hwm : IntKind.i64.wrap (m : Int) = m := IntWalk.i64_in _ (by omega)
              have hwjm : IntKind.i64.wrap ((j : Int) + (m : Int)) = (j : Int) + m := IntWalk.i64_in _ (by omega)
              clear hm hgj hnx
              go_wp2_with fail
              go_cut [118] (fun s118 wx => s118 = .bool (decide (j = wh)) ∧ Below w3.heap.size w3 wx)
              case first =>
                go_region_held3 (fun w' => w'.cell? ⟨gg, j, none⟩ = some (.int .i64 gj) ∧ w'.cell? ⟨gr, 2, none⟩ = some (encStr y1)) (go_keep)
                  (first | (go_at_call 37; refine (HId.out _).mono ?_; rintro _ w4 ⟨rfl, hb4⟩; have HB4 : Hid (Below w3.heap.size w3 w4) := Hnx.out.trans ((((Below.refl wr.heap.size wr).drew).trans hb4).mono Hnx.out.size); have f1 := HCE.out w4 HB4.out; have f2 := HCI.out w4 HB4.out; clear hb4))
                all_goals
                  go_wp2_with fail
                  go_meet
                  exact ⟨by rw [← Hcmp.out], HB4.out⟩
              case rest =>
                obtain ⟨rfl, hB4⟩ := hcut
                have HB4 := hide hB4
                clear hB4
                by_cases hjw : j = wh
                · rw [decide_eq_true hjw]
                  go_wp2_with fail
                  go_roundw
                  case rel => exact ⟨j + 1, by omega, by go_num, by rw [hjw, whoV_hit], HB4.out⟩
                  case measure => simp [intOf]; omega
                · rw [decide_eq_false hjw]
                  go_wp2_with fail
                  go_roundw
                  case rel => exact ⟨j + 1, by omega, by go_num, by rw [whoV_miss hjw], HB4.out⟩
                  case measure => simp [intOf]; omega
            · obtain rfl : N = j := by omega
              rw [whoV_all hwN]
              have hSt4 := HSt3.out.below hnx
              have e1 := hSt4.gone hwN
              have f1 : wr.frozen? ⟨gg, wh, none⟩ = false := hSt4.r.1.frozen wh
              have e3 : wr.cell? ⟨gr, 3, none⟩ = some (encStr (kbody p)) := (hnx.cell (p := ⟨gr, 3, none⟩) hgr).trans HD3.out
              have hwI : (wh : Int) < (N : Int) := by omega
              have hw0 : ¬ ((wh : Int) < 0) := by omega
              have HSt5 := hide (hSt4.setR wh ((gone wh : Int) + 1) rfl)
              clear hnx Hnx hSt4
              go_wp2_with fail
              generalize hW1 : wr.setCell ⟨gg, wh, none⟩ _ = W1 at *
              have c1 := HSt5.out.sent hwN
              have k1 : W1.frozen? ⟨gg + 1, wh, none⟩ = false := HSt5.out.s.1.frozen wh
              have c3 : W1.cell? ⟨gr, 3, none⟩ = some (encStr (kbody p)) := by
                rw [← hW1, World.cell?_of_block (w := wr) (a := ⟨gr, 3, none⟩) (Below.heap_setCell _ _ _ _ (fun e => hg1 (by simpa using e)))]
                exact e3
              have hbw := Hbd.out wh hwN
              have hbw1 : by' wh ≤ 6400 := by omega
              have hbl : (kbody p).length = p := kbody_len p
              have HSt6 : Hid (∀ W, W = W1 ∨ W = W1.drew → ∀ v, v = by' wh + p + 1 → FSt zs N w (W.setCell ⟨gg + 1, wh, none⟩ (.int .i64 v)) L3 g gc b gn gg (t + 1) (more gone wh) by2 M') := fun W hW v hv => by
                have h1 : FSt zs N w W L3 g gc b gn gg (t + 1) (more gone wh) by' M' := by
                  rcases hW with rfl | rfl
                  · exact HSt5.out
                  · exact HSt5.out.below (Below.refl _ _).drew
                refine h1.setS by2 wh v (fun i => ?_)
                rw [Hby2.out, hv]
                by_cases e : i = wh
                · subst e
                  simp
                  omega
                · simp [e]
              clear e1 f1 e3 hW1
              generalize hyb : kbody p = yb at *
              clear hyb
              go_cut [] (fun wx => FSt zs N w wx L3 g gc b gn gg (t + 1) (more gone wh) by2 M')
              case first =>
                go_region
                all_goals
                  go_wp2_with fail
                  go_meet
                  first
                    | exact (HSt6.out _ (Or.inl rfl) _ (by omega)).below (Below.refl _ _).drew
                    | exact HSt6.out _ (Or.inl rfl) _ (by omega)
                    | exact HSt6.out _ (Or.inr rfl) _ (by omega)
              case rest =>
                have HSt7 := hide hcut
                clear hcut HSt5 HSt6 c1 k1 c3
                have HQ : Hid (∀ j, j < N → 64 ≤ qOf (DT (madeT zs N)) (kn.getD j []) ∧ qOf (DT (madeT zs N)) (kn.getD j []) ≤ 1000) := fun j hj => by
                  have hnl : M.ns.length = N := by rw [HR.out.ns, List.length_take]; show min N 4 = N; omega
                  have := (HSt.out.k.inv.sendOk (by omega)).quanta_bd j (by rw [hnl]; exact hj)
                  rw [FSt.q HR.out.ns HSt.out.D hN4 hj] at this
                  exact this
                have HFair : Hid (∀ j, j < N → by2 j * qOf (DT (madeT zs N)) (kn.getD wh []) - by2 wh * qOf (DT (madeT zs N)) (kn.getD j []) < 3 * qOf (DT (madeT zs N)) (kn.getD j []) * qOf (DT (madeT zs N)) (kn.getD wh []) ∧ -(3 * qOf (DT (madeT zs N)) (kn.getD j []) * qOf (DT (madeT zs N)) (kn.getD wh [])) < by2 j * qOf (DT (madeT zs N)) (kn.getD wh []) - by2 wh * qOf (DT (madeT zs N)) (kn.getD j [])) := fun j hj => by
                  have hnl : M.ns.length = N := by rw [HR.out.ns, List.length_take]; show min N 4 = N; omega
                  obtain ⟨_, _, _, _, hrot, _⟩ := HSt3.out.k.inv.os 0 o' HG.out.ho
                  have hns' : M'.ns = M.ns := HG.out.same.2.2.1
                  rw [hns', hnl] at hrot
                  have := HBal.out.fair hrot (fun i hi => by rw [FSt.q HR.out.ns HSt.out.D hN4 hi]; exact HQ.out i hi) hj
                  rw [show (o'.turn, o'.cr).1 = wh from HG.out.turn, FSt.q HR.out.ns HSt.out.D hN4 hj, FSt.q HR.out.ns HSt.out.D hN4 hwN] at this
                  exact this
                have HB2 : Hid (∀ j, j < N → 0 ≤ by2 j ∧ by2 j ≤ 10000) := fun j hj => by
                  have h1 := Hbd.out j hj
                  have h2 := Hlt.out j hj
                  rw [Hby2.out]
                  simp only
                  split <;> omega
                go_wp2_with fail
                go_loopw [19] (fun i wr => ∃ j : Nat, j ≤ N ∧ i = .int .i64 j ∧ Below wc.heap.size wc wr) (fun i _ => N - (intOf i).toNat)
                case atStart => exact ⟨0, Nat.zero_le _, rfl, Below.refl _ _⟩
                case round =>
                  obtain ⟨j, hj, rfl, hnx⟩ := hrel
                  have hSt8 := HSt7.out.below hnx
                  have HSt8 := hide hSt8
                  have Hnx := hide hnx
                  by_cases hjN : j < N
                  · have hjI : (j : Int) < (N : Int) := by omega
                    have c1 := hSt8.sent hjN
                    have c2 := hSt8.sent hwN
                    have c3 := hSt8.f.quanta
                    have c4 : wr.cell? ⟨gn, wh, none⟩ = _ := hSt8.f.name (Nat.lt_of_lt_of_le hwN hN4)
                    have c5 : wr.cell? ⟨gn, j, none⟩ = _ := hSt8.f.name (Nat.lt_of_lt_of_le hjN hN4)
                    obtain ⟨n0, _, hO, _⟩ := hSt8.f.m
                    have hl1 : ∀ nq, _ := fun nq => fq_look hO (made_has zs hN1 hN4 hO hwN) (wr.drewN nq) n0 hO
                    have hl2 : ∀ nq, _ := fun nq => fq_look hO (made_has zs hN1 hN4 hO hjN) (wr.drewN nq) n0 hO
                    obtain ⟨f1, f2⟩ := HFair.out j hjN
                    obtain ⟨a1, a2⟩ := HQ.out j hjN
                    obtain ⟨a3, a4⟩ := HQ.out wh hwN
                    obtain ⟨a5, a6⟩ := HB2.out j hjN
                    obtain ⟨a7, a8⟩ := HB2.out wh hwN
                    generalize qOf (DT (madeT zs N)) (kn.getD wh []) = qw at *
                    generalize qOf (DT (madeT zs N)) (kn.getD j []) = qj at *
                    generalize by2 j = bj at *
                    generalize by2 wh = bw at *
                    generalize kn.getD wh [] = xw at *
                    generalize kn.getD j [] = xj at *
                    obtain ⟨P1, hP1⟩ : ∃ P, bj * qw = P := ⟨_, rfl⟩
                    obtain ⟨P2, hP2⟩ : ∃ P, bw * qj = P := ⟨_, rfl⟩
                    obtain ⟨P3, hP3⟩ : ∃ P, 3 * qj * qw = P := ⟨_, rfl⟩
                    have p1 : 0 ≤ P1 ∧ P1 ≤ 10000000 := by rw [← hP1]; exact ⟨Int.mul_nonneg a5 (by omega), Int.le_trans (Int.mul_le_mul a6 a4 (by omega) (by omega)) (by omega)⟩
                    have p2 : 0 ≤ P2 ∧ P2 ≤ 10000000 := by rw [← hP2]; exact ⟨Int.mul_nonneg a7 (by omega), Int.le_trans (Int.mul_le_mul a8 a2 (by omega) (by omega)) (by omega)⟩
                    have p3 : 0 ≤ P3 ∧ P3 ≤ 3000000 := by rw [← hP3]; exact ⟨Int.mul_nonneg (by omega) (by omega), Int.le_trans (Int.mul_le_mul (show 3 * qj ≤ 3000 by omega) a4 (by omega) (by omega)) (by omega)⟩
                    rw [hP1, hP2, hP3] at f1 f2
                    have w1 : IntKind.i64.wrap P1 = P1 := IntWalk.i64_in _ (by omega)
                    have w2' : IntKind.i64.wrap P2 = P2 := IntWalk.i64_in _ (by omega)
                    have w3' : IntKind.i64.wrap (P1 - P2) = P1 - P2 := IntWalk.i64_in _ (by omega)
                    have w4' : IntKind.i64.wrap (3 * qj) = 3 * qj := IntWalk.i64_in _ (by omega)
                    have w5' : IntKind.i64.wrap P3 = P3 := IntWalk.i64_in _ (by omega)
                    have w6' : IntKind.i64.wrap (-(P1 - P2)) = -(P1 - P2) := IntWalk.i64_in _ (by omega)
                    clear hnx hSt8 hO
                    go_wp2_with fail
                    go_quiet (fail)
                    by_cases hneg : P1 - P2 < 0
                    · have hno : ¬ (P3 ≤ -(P1 - P2)) := by omega
                      go_wp2_with fail
                      go_quiet (fail)
                      go_wp2_with fail
                      go_roundw
                      case rel => exact ⟨j + 1, by omega, by go_num, by first | exact below_drewN Hnx.out | exact below_drewN (below_drewN Hnx.out)⟩
                      case measure => simp [intOf]; omega
                    · have hno : ¬ (P3 ≤ P1 - P2) := by omega
                      go_wp2_with fail
                      go_quiet (fail)
                      go_wp2_with fail
                      go_roundw
                      case rel => exact ⟨j + 1, by omega, by go_num, by first | exact below_drewN Hnx.out | exact below_drewN (below_drewN Hnx.out)⟩
                      case measure => simp [intOf]; omega
                  · obtain rfl : N = j := by omega
                    clear hnx hSt8
                    go_wp2_with fail
                    refine (lreply HSt8.out.k (by omega) HG.out.ho (by rw [HG.out.way]; omega) true ((s : Int) + 1) (by rw [HG.out.sn, Hsn.out])).mono ?_
                    rintro e w7 ⟨rfl, L7, hK7, hs7⟩
                    obtain ⟨o2, hR2, hsn2, _, hc2, hD2⟩ := HG.out.replied HR.out HBal.out HSt3.out.k.inv (by omega) hN1 (pickN_lt (zs.getD 8 0) (n := 4) (by omega)) (by rw [HSt.out.c]; rfl) (by rw [HSt.out.c]; have := pickN_lt (zs.getD 4 0) (n := 8) (by omega); show (1 + (pickN (zs.getD 4 0) 8 : Int)) ≤ 8; omega) hwT
                    have hSt9 := HSt8.out.step hK7 hs7 (hD2.trans HG.out.same.2.1.symm) (hc2.trans HG.out.same.1.symm)
                    have c9 : w7.cell? ⟨gg, wh, none⟩ = some (.int .i64 ((gone wh : Int) + 1)) := by
                      rw [hSt9.gone hwN]
                      simp [more]
                    have HSt9 := hide hSt9
                    have HR2 := hide hR2
                    have Hsn2 := hide hsn2
                    clear hK7 hs7 hR2 hsn2 hc2 hD2 hSt9
                    by_cases hend : gone wh + 1 = E
                    · have hendI : (gone wh : Int) + 1 = (E : Int) := by omega
                      go_wp2_with fail
                      go_ret
                      exact ⟨rfl, HSt9.out.k.b⟩
                    · have hendI : ¬ ((gone wh : Int) + 1 = (E : Int)) := by omega
                      have hgE := Hlt.out wh hwN
                      go_wp2_with fail
                      go_roundw
                      case rel =>
                        refine ⟨more gone wh, by2, _, L7, o2, t + 1 + 1, s + 1, ?_, by go_num, fun i hi => ?_, fun i hi => ?_, HR2.out, ?_, by omega, HSt9.out⟩
                        · rw [gsum_more, if_pos hwN, Hs.out]
                        · have := Hlt.out i hi
                          unfold more
                          split
                          · rename_i e
                            subst e
                            omega
                          · exact this
                        · have := Hbd.out i hi
                          rw [Hby2.out]
                          unfold more
                          simp only
                          split <;> omega
                        · rw [Hsn2.out, HG.out.sn, Hsn.out]
                          omega
                      case measure => simp [intOf]; omega
end Go.Proofs.YtojpjaifhjigfaaGreatDoor
