/- Steps of the proof (several texts in one): SendOut, Over, Ticks. -/
import Derived.Test.YtojpjaifhjigfabGreatDoorMTwo12
import Derived.Test.YtojpjaifhjigfabGreatDoorMTwo11

/- sendOut: to each destination one at most. -/
namespace Go.Proofs.YtojpjaifhjigfabGreatDoor
open Go.RowKit Go.Maps

theorem infoSend3 : (Tryz.prog.info? 111).map (fun i => (i.zero, i.size, i.bytes)) = some (some (.agg #[.int .i64 0, .int .i64 0, .string ⟨#[]⟩, .string ⟨#[]⟩]), 4, 48) := by kernel_rfl
theorem infoPBatchS : (Tryz.prog.info? 73).map (·.size) = some 6 := by kernel_rfl
theorem Sd.cells_length (s : Sd) : s.cells.length = 4 := rfl

/-- What one destination wants. -/
structure DestOk (M : Ag) (o : Out) : Prop where
  rot : Rot M.ns.length (o.turn, o.cr)
  s0 : 0 ≤ o.sends
  s1 : o.sends ≤ 1000000000000000000

/-- Only the first k destinations have turned. -/
structure SentUp (M M' : Ag) (k : Nat) : Prop where
  eq : { M' with os := M.os } = M
  len : M'.os.length = M.os.length
  os : ∀ d, k ≤ d → M'.os[d]? = M.os[d]?
theorem SentUp.refl (M : Ag) : SentUp M M 0 := ⟨rfl, rfl, fun _ _ => rfl⟩
theorem SentUp.step {M M' : Ag} {k : Nat} (h : SentUp M M' k) : SentUp M M' (k + 1) := ⟨h.eq, h.len, fun d hd => h.os d (by omega)⟩
theorem sentTo_up (M : Ag) (d : Nat) : SentUp M (M.sentTo d).1 (d + 1) := by
  unfold Ag.sentTo
  cases ho : M.os[d]? with
  | none => exact ⟨rfl, rfl, fun _ _ => rfl⟩
  | some o =>
    simp only
    split
    · exact ⟨rfl, rfl, fun _ _ => rfl⟩
    · exact ⟨rfl, by simp, fun i hi => by simp only; rw [List.getElem?_set_ne (by omega)]⟩
theorem SentUp.trans {M M1 M2 : Ag} {k j : Nat} (h : SentUp M M1 k) (g : SentUp M1 M2 j) (hkj : k ≤ j) : SentUp M M2 j := by
  refine ⟨?_, g.len.trans h.len, fun d hd => (g.os d hd).trans (h.os d (by omega))⟩
  have e1 := h.eq
  have e2 := g.eq
  rw [← e2] at e1
  exact e1
theorem sentOut_up (M : Ag) : ∀ k, SentUp M (M.sentOut k).1 k
  | 0 => SentUp.refl M
  | k + 1 => (sentOut_up M k).trans (sentTo_up _ k) (by omega)
theorem SentUp.same {M M' : Ag} {k : Nat} (h : SentUp M M' k) : M'.c = M.c ∧ M'.D = M.D ∧ M'.ns = M.ns ∧ M'.bs = M.bs ∧ M'.dead = M.dead ∧ M'.log = M.log ∧ M'.now = M.now ∧ M'.rt = M.rt := by
  rw [← h.eq]
  exact ⟨rfl, rfl, rfl, rfl, rfl, rfl, rfl, rfl⟩
theorem SendOk.up {M M' : Ag} {k : Nat} (h : SendOk M) (u : SentUp M M' k) : SendOk M' := by
  obtain ⟨e1, e2, e3, e4, e5, e6, e7, e8⟩ := u.same
  exact ⟨by rw [e1]; exact h.c, by rw [e3]; exact h.nl, by rw [e3]; exact h.sl, by rw [e2, e3]; exact h.hs, by rw [e2, e3]; exact h.q, by rw [e4, e8]; exact h.rl, by rw [e4]; exact h.bl, by rw [e4]; exact h.b120, by rw [e7]; exact h.n0, by rw [e7]; exact h.n1, by rw [u.len]; exact h.o4⟩
theorem sentOut_len (M : Ag) : ∀ k, (M.sentOut k).2.length ≤ k
  | 0 => Nat.le_refl _
  | k + 1 => by
    have ih := sentOut_len M k
    have h1 : ((M.sentOut k).1.sentTo k).2.length ≤ 1 := by
      unfold Ag.sentTo
      cases (M.sentOut k).1.os[k]? with
      | none => simp
      | some o => simp only; split <;> simp
    simp only [Ag.sentOut, List.length_append]
    omega

/-- sentTo, in the words of next. -/
theorem sentTo_eq {M : Ag} {d : Nat} {o : Out} (ho : M.os[d]? = some o) (hw : o.way = -1) (hop : ¬ (o.trip = true ∧ M.now < o.unt)) (hall : (M.sizes d).all (· == 0) = false) :
    M.sentTo d = ({ M with os := M.os.set d { o.picked (M.sizes d) M.quanta with sends := o.sends + 1, way := M.named d o, began := M.now } }, [⟨d, o.sends + 1, (M.bs[M.named d o]?.map (·.id)).getD [], (M.bs[M.named d o]?.map (·.body)).getD []⟩]) := by
  unfold Ag.sentTo
  rw [ho]
  simp only
  rw [if_neg (fun h => by
    rcases h with h | h | h
    · exact h hw
    · exact hop h
    · rw [hall] at h; cases h)]
  rfl
theorem sentTo_not {M : Ag} {d : Nat} {o : Out} (ho : M.os[d]? = some o) (h : o.way ≠ -1 ∨ (o.trip = true ∧ M.now < o.unt) ∨ (M.sizes d).all (· == 0) = true) : M.sentTo d = (M, []) := by
  unfold Ag.sentTo
  rw [ho]
  simp only
  rw [if_pos h]

/-- What sendOut leaves. -/
def SentAll (w : World) (L : Labs) (l : Lab) (who g : Nat) (x : Ag × List Sd) (e : Ending) (w' : World) : Prop := ∃ v L', e = .returned v ∧ RowAt w' L' l 111 4 v x.2.length (x.2.flatMap Sd.cells) ∧ AgentAt w' L' who g x.1 ∧ Step (ofP who) L w L' w'

theorem next_any (L : Labs) (who g d : Nat) (M : Ag) (o : Out) (w : World) (hA : AgentAt w L who g M) (h : SendOk M) (ho : M.os[d]? = some o) (hr : Rot M.ns.length (o.turn, o.cr)) (hd4 : d < 4) :
    Calls Tryz.prog 92 #[.pointer (some ⟨g, 0, none⟩), .int .i64 d] w fun e w' =>
      ((M.sizes d).all (· == 0) = true → e = .returned (.int .i64 (-1)) ∧ Turned w L who g M w' ∧ w'.cell? ⟨g, 18, none⟩ = w.cell? ⟨g, 18, none⟩) ∧
      ((M.sizes d).all (· == 0) = false → e = .returned (.int .i64 (M.named d o)) ∧ Turned w L who g { M with os := M.os.set d (o.picked (M.sizes d) M.quanta) } w' ∧ w'.cell? ⟨g, 18, none⟩ = w.cell? ⟨g, 18, none⟩) := by
  refine (next_core (clip L w.heap.size) who g d M o w (fun k hk => clip_none L hk) (hA.keep (Step.clipped (p := fun _ => False) L w) (fun _ h => h)) h ho hr hd4).mono ?_
  rintro e w' ⟨h1, h2⟩
  refine ⟨fun ha => ?_, fun ha => ?_⟩
  · obtain ⟨e1, e2, e3, e4⟩ := h1 ha
    exact ⟨e1, ⟨_, e2, (Step.clipped L w).trans e3⟩, e4⟩
  · obtain ⟨e1, e2, e3, e4⟩ := h2 ha
    exact ⟨e1, ⟨_, e2, (Step.clipped L w).trans e3⟩, e4⟩

set_option maxRecDepth 100000 in
set_option maxHeartbeats 4000000 in
theorem sendOut_any (L : Labs) (l : Lab) (who g : Nat) (M : Ag) (w : World) (hl : ¬ ofP who l) (hfr : ∀ k, k < w.heap.size → L k ≠ l) (hA : AgentAt w L who g M) (h : SendOk M) (hd : ∀ (d : Nat) (o : Out), M.os[d]? = some o → DestOk M o) :
    Calls Tryz.prog 72 #[.pointer (some ⟨g, 0, none⟩)] w fun e w' => SentAll w L l who g (M.sentOut M.os.length) e w' := by
  have ho4 := h.o4
  have hn0 := h.n0
  have hn1 := h.n1
  have HU := hide (sentOut_up M)
  have HL := hide (sentOut_len M)
  have H := hide h
  have HD := hide hd
  have HA := hide hA
  have Hfr := hide hfr
  have c18 : ∃ oa ok, w.cell? ⟨g, 18, none⟩ = some (.slice oa M.os.length ok) := by
    obtain ⟨bq, bm, cn, tv, dv, nv, rv, ov, q⟩ := hA
    obtain ⟨fs, h1, h2, h3⟩ := q.ol
    obtain ⟨oa, ok, rfl, _⟩ := h2.shape
    exact ⟨oa, ok, q.blk.1.cell 18⟩
  obtain ⟨oa, ok, c18⟩ := c18
  obtain ⟨i0, hi, hz0, hz1, hz2⟩ := info_parts infoSend3
  generalize hn : M.os.length = n at *
  have Hn := hide hn
  clear h hA hfr hn hd
  go_enter Tryz.func72, Tryz.ntmps72
  go_wp2_with fail
  go_loopw [3, 13] (fun t i wr => ∃ (k : Nat) (L1 : Labs) (ea : Option Addr) (m ek : Nat), k ≤ n ∧ i = .int .i64 k ∧ t = .slice ea m ek ∧ m = (M.sentOut k).2.length ∧ RowAt wr L1 l 111 4 (.slice ea m ek) m ((M.sentOut k).2.flatMap Sd.cells) ∧ AgentAt wr L1 who g (M.sentOut k).1 ∧ Step (fun x => ofP who x ∨ x = l) L w L1 wr) (fun _ i _ => n - (intOf i).toNat)
  case atStart => exact ⟨0, L, none, 0, 0, Nat.zero_le _, rfl, rfl, rfl, RowAt.nil _ _ _ _ _, HA.out, Step.refl _ _ _⟩
  case round =>
    obtain ⟨k, L1, ea, m, ek, hk, rfl, rfl, hm, hrow, hA1, hS1⟩ := hrel
    have Hm := hide hm
    have Hrow := hide hrow
    have HA1 := hide hA1
    have HS1 := hide hS1
    have hm4 : m ≤ 4 := by rw [hm]; have := HL.out k; omega
    clear hm hrow hA1 hS1
    by_cases hlt : k < n
    · have hltI : (k : Int) < (n : Int) := by omega
      obtain ⟨o, ho⟩ : ∃ o, M.os[k]? = some o := ⟨_, List.getElem?_eq_getElem (by rw [Hn.out]; exact hlt)⟩
      have hu := HU.out k
      obtain ⟨z1, z2, z3, z4, z5, z6, z7, z8⟩ := hu.same
      have hok' : (M.sentOut k).1.os[k]? = some o := (hu.os k (Nat.le_refl _)).trans ho
      have hdo := HD.out k o ho
      have hso : SendOk (M.sentOut k).1 := H.out.up hu
      have hrot : Rot (M.sentOut k).1.ns.length (o.turn, o.cr) := by rw [z3]; exact hdo.rot
      have Hs0 := hdo.s0
      have Hs1 := hdo.s1
      have HStep : Hid (M.sentOut (k + 1) = (((M.sentOut k).1.sentTo k).1, (M.sentOut k).2 ++ ((M.sentOut k).1.sentTo k).2)) := rfl
      have hlen1 : (M.sentOut k).1.os.length = n := hu.len.trans Hn.out
      generalize hM1 : (M.sentOut k).1 = M1 at *
      obtain ⟨bq, bm, cn, tv, dv, nv, rv, ov, hAt⟩ := HA1.out
      obtain ⟨go, gk, rfl, hF⟩ := hAt.focus hok'
      rw [hlen1] at hAt
      obtain ⟨g2, ca, ck, hC⟩ := hF.cells
      have d18 : wr.cell? ⟨g, 18, none⟩ = some (.slice (some ⟨go, 0, none⟩) n gk) := hAt.blk.1.cell 18
      have d16 : wr.cell? ⟨g, 16, none⟩ = some (.int .i64 M1.now) := hAt.blk.1.cell 16
      have E3 := hide hC.c3
      have E4 := hide hC.c4
      have E8 := hide hC.c8
      have HBusy := hide (fun w1 h1 => isBusy_any go (k * 10) o.way w1 h1)
      have HOpen := hide (fun w1 h3 h4 => isOpen_any go (k * 10) o.trip o.unt M1.now w1 h3 h4)
      have HNext := hide (fun W hW => next_any L1 who g k M1 o W hW hso hok' hrot (by omega))
      have Hok' := hide hok'
      have HM1 := hide hM1
      have Hso := hide hso
      have Hrot := hide hrot
      clear hAt hF hC ho hu hok' hdo hso hrot hM1 z1 z2 z3 z4 z5 z6 z7 z8
      by_cases hw : o.way = -1
      · have hwb : (o.way != -1) = false := by simp [hw]
        rw [hwb] at HBusy
        have Hw := hide hw
        clear hw hwb
        cases hop : (o.trip && decide (M1.now < o.unt))
        · rw [hop] at HOpen
          have Hop : Hid (¬ (o.trip = true ∧ M1.now < o.unt)) := fun h => by rw [h.1] at hop; simp at hop; omega
          clear hop
          go_wp2_with fail
          go_quiet (first | (go_at_call 90; exact Calls.quiet_of_same (HBusy.out _ (by exact E8.out))) | (go_at_call 91; exact Calls.quiet_of ((HOpen.out _ (by exact E3.out) (by exact E4.out)).mono (fun e w' h => h))))
          go_wp2_with fail
          refine (HNext.out _ (HA1.out.keep (Step.drewN (p := fun _ => False) L1 wr _) (fun _ h => h))).mono ?_
          rintro e w2 ⟨hx1, hx2⟩
          cases hall : (M1.sizes k).all (· == 0)
          · obtain ⟨rfl, ⟨L2, hA2, hS2⟩, h18⟩ := hx2 hall
            obtain ⟨x, p, ps, hx, hpd, hnm⟩ := picked_head Hso.out Hrot.out hall
            obtain ⟨b, hb⟩ : ∃ b, M1.bs[p]? = some b := by
              obtain ⟨b, hb, _⟩ := mem_pend.1 (show p ∈ pend M1.bs k x by rw [hpd]; simp)
              exact ⟨b, hb⟩
            have HTo := hide (sentTo_eq Hok'.out Hw.out Hop.out hall)
            rw [hnm] at HTo
            rw [hnm]
            simp only [hb, Option.map_some, Option.getD_some] at HTo
            generalize hop' : o.picked (M1.sizes k) M1.quanta = o' at *
            have hs' : o'.sends = o.sends := by rw [← hop']; rfl
            have hkl : k < M1.os.length := (List.getElem?_eq_some_iff.1 Hok'.out).1
            have ho2 : (M1.os.set k o')[k]? = some o' := by rw [List.getElem?_set_self hkl]
            obtain ⟨bq2, bm2, cn2, tv2, dv2, nv2, rv2, ov2, hAt2⟩ := hA2
            obtain ⟨go2, gk2, hov2, hF2⟩ := AgAt.focus (M := { M1 with os := M1.os.set k o' }) hAt2 ho2
            subst hov2
            have hc18 : w2.cell? ⟨g, 18, none⟩ = some (.slice (some ⟨go2, 0, none⟩) (M1.os.set k o').length gk2) := hAt2.blk.1.cell 18
            have hc18' : w2.cell? ⟨g, 18, none⟩ = some (.slice (some ⟨go, 0, none⟩) n gk) := h18.trans d18
            rw [hc18] at hc18'
            simp only [Option.some.injEq, Value.slice.injEq, Addr.mk.injEq, and_true] at hc18'
            obtain ⟨rfl, hln, rfl⟩ := hc18'
            have HBeg := hide (begin_any L2 who M1.c.th go2 gk2 k (M1.os.set k o') o' p M1.now w2 hF2 (by rw [hs']; exact Hs0) (by rw [hs']; exact Hs1))
            have e16 : w2.cell? ⟨g, 16, none⟩ = some (.int .i64 M1.now) := hAt2.blk.1.cell 16
            have hpn : ((p : Int) != -1) = true := bne_iff_ne.2 (by omega)
            have hpI : (p : Int) < (M1.bs.length : Int) := by have := (List.getElem?_eq_some_iff.1 hb).1; omega
            have HAt2 := hide hAt2
            have HS2 : Hid (Step (ofP who) L1 wr L2 w2) := (Step.drewN L1 wr _).trans hS2
            have Hb := hide hb
            have Hs' := hide hs'
            clear hx1 hx2 hS2 h18 hx hpd hnm hb hop' ho2 hF2 hc18 hall hs' d18 d16
            go_wp2_with fail
            refine HBeg.out.mono ?_
            rintro e w3 ⟨rfl, hF3, hS3⟩
            have hA3 := AgAt.outs HAt2.out hS3 (fun q h => by simp [olP] at h; exact Or.inl h) hF3.2
            obtain ⟨g4, ca4, ck4, hC3⟩ := hF3.cells
            have e7 : w3.cell? ⟨go2, k * 10 + 7, none⟩ = some (.int .i64 (o'.sends + 1)) := hC3.c7
            rw [Hs'.out] at e7
            obtain ⟨ta, tk, htv, _⟩ := hA3.tk.shape
            subst htv
            obtain ⟨gt, hta, hgt, _, hct, _⟩ := hA3.tk.head (by show 0 < M1.bs.length; omega)
            subst hta
            have e0 : w3.cell? ⟨g, 0, none⟩ = some (.slice (some ⟨gt, 0, none⟩) M1.bs.length tk) := hA3.blk.1.cell 0
            have HRg : Hid (w3.rangeAt gt (p * 6) b.cells) := fun j u hu => hct _ u (flat_cell Bat.cells 6 Bat.cells_length Hb.out (List.getElem?_eq_some_iff.1 hu).1 hu)
            have HA3 : Hid (AgentAt w3 L2 who g { M1 with os := M1.os.set k { o' with sends := o.sends + 1, way := p, began := M1.now } }) := by
              have := hA3
              rw [List.set_set, Hs'.out] at this
              exact ⟨bq2, bm2, cn2, _, dv2, nv2, rv2, _, this⟩
            have HS3 : Hid (Step (ofP who) L1 wr L2 w3) := HS2.out.trans (hS3.mono (fun l h => ⟨_, h⟩))
            have hl7 := hC3.lt
            clear hF3 hS3 hA3 hC3 hct e16
            go_wp2_with (first
              | (refine wpList_load_mid rfl 73 _ rfl gt (p * 6) rfl [.int .i64 b.dst, encStr b.ten, encStr b.id, encStr b.body, .int .i64 b.st, .int .i64 b.fl] _ HRg.out Tryz.underlying73 rfl infoPBatchS ?_)
              | fail)
            generalize hV : World.alloc w3 _ = V
            have hBV : Below w3.heap.size w3 V := by rw [← hV]; exact (Below.refl _ _).alloc (Nat.le_refl _) _
            have hNV : Blk V w3.heap.size #[.int .i64 b.dst, encStr b.ten, encStr b.id, encStr b.body, .int .i64 b.st, .int .i64 b.fl] 73 := by rw [← hV]; exact Blk.new _ _ _
            have v7 : V.cell? ⟨go2, k * 10 + 7, none⟩ = some (.int .i64 (o.sends + 1)) := (hBV.cell (p := ⟨go2, k * 10 + 7, none⟩) hl7).trans e7
            have b2 : V.cell? ⟨w3.heap.size, 2, none⟩ = some (encStr b.id) := hNV.cell 2
            have b3 : V.cell? ⟨w3.heap.size, 3, none⟩ = some (encStr b.body) := hNV.cell 3
            have hvl : w3.heap.size < V.heap.size := hNV.lt
            have hvg : go2 < V.heap.size := Nat.lt_of_lt_of_le hl7 hBV.size
            have HRV := hide ((Hrow.out.keep HS3.out hl).keep (Step.of_below (p := fun _ => False) hBV) (fun h => h))
            have HAV := hide (HA3.out.keep (Step.of_below (p := fun _ => False) hBV) (fun _ h => h))
            have HSV : Hid (Step (fun x => ofP who x ∨ x = l) L w L2 V) := HS1.out.trans ((HS3.out.trans (Step.of_below hBV)).mono (fun x h => Or.inl h))
            obtain ⟨sd, hsd⟩ : ∃ sd : Sd, sd = ⟨k, o.sends + 1, b.id, b.body⟩ := ⟨_, rfl⟩
            have Hsd := hide hsd
            have HEnd : Hid (∀ g5 cap5 w5, w5.ownsRow 0 111 4 (.slice (some ⟨g5, 0, none⟩) (m + 1) cap5) (m + 1) ((M.sentOut k).2.flatMap Sd.cells ++ sd.cells) → (V.alloc (.cells sd.cells.toArray 111)).drew.grownBy w5 (Value.slice ea m ek).ownBlock → ((Value.slice ea m ek).ownBlock = some g5 ∨ g5 = V.heap.size + 1) →
                ∃ L5, RowAt w5 L5 l 111 4 (.slice (some ⟨g5, 0, none⟩) (m + 1) cap5) (m + 1) ((M.sentOut (k + 1)).2.flatMap Sd.cells) ∧ m + 1 = (M.sentOut (k + 1)).2.length ∧ AgentAt w5 L5 who g (M.sentOut (k + 1)).1 ∧ Step (fun x => ofP who x ∨ x = l) L w L5 w5) := fun g5 cap5 w5 a1 a2 a3 => by
              have hat : (Value.slice ea m ek).ownBlock = some g5 ∨ (V.alloc (.cells sd.cells.toArray 111)).drew.heap.size ≤ g5 := a3.imp id (fun e => by simp; omega)
              have hR2' := HRV.out.keep ((Step.alloc (p := fun _ => False) L2 V (.cells sd.cells.toArray 111)).trans (Step.drew L2 _)) (fun h => h)
              obtain ⟨hrow5, hlab5⟩ := RowAt.appended hR2' a1 hat
              have hsa : Step (fun x => x = l) L2 V (lay L2 g5 l) w5 := ((Step.alloc L2 V _).trans (Step.drew L2 _)).trans (Step.of_grown a2 (fun j hj => hR2'.2 j hj) hlab5)
              refine ⟨lay L2 g5 l, ?_, ?_, ?_, HSV.out.trans (hsa.mono (fun x h => Or.inr h))⟩
              · rw [HStep.out, HTo.out, List.flatMap_append]
                have : [sd].flatMap Sd.cells = sd.cells := by simp
                rw [← hsd, this]
                exact hrow5
              · rw [HStep.out, HTo.out, List.length_append, Hm.out]; rfl
              · rw [HStep.out, HTo.out]
                exact HAV.out.keep hsa (fun q h => hl ⟨q, h.symm⟩)
            clear hV hBV hNV e7 e0 hgt hsd
            go_region_law (refine step_append_lies _ (by rfl) _ _ _ (by rfl) 0 111 i0 (.agg #[.int .i64 0, .int .i64 0, .string ⟨#[]⟩, .string ⟨#[]⟩]) 4 48 Tryz.underlying77 hi hz0 hz1 hz2 rfl (by omega) (.slice ea m ek) m _ (by rfl) ((HRV.out.1.alloc _).drew) ⟨V.heap.size, 0, none⟩ 1 1 sd.cells (by rfl) (by rfl) (World.news_of_block (cs := sd.cells.toArray) (t := 111) (fr := (0, 0)) (by rw [Hsd.out]; exact heap_alloc_new V _)) (by rw [Hsd.out]; simp [Value.oneCell', Sd.cells, encStr]) (by omega) (by unfold maxLen; omega) (by omega) (Nat.zero_le _) (V.heap.size + 1) (by simp) ?_; intro g5 cap5 w5 hown5 hg5 hat5 hlt5; have HE5 := hide (HEnd.out g5 cap5 w5 hown5 (by rw [Hsd.out]; exact hg5) hat5); clear hown5 hg5 hat5)
            all_goals
              go_wp2_with fail
              go_roundw
              case rel =>
                obtain ⟨L5, r1, r2, r3, r4⟩ := HE5.out
                exact ⟨k + 1, L5, some ⟨g5, 0, none⟩, m + 1, cap5, by omega, by go_num, rfl, r2, r1, r3, r4⟩
              case measure => simp [intOf]; omega
          · obtain ⟨rfl, ⟨L2, hA2, hS2⟩, h18⟩ := hx1 hall
            have HA2 := hide hA2
            have hS2' : Step (ofP who) L1 wr L2 w2 := (Step.drewN L1 wr _).trans hS2
            have HR2 := hide (Hrow.out.keep hS2' hl)
            have HS2 : Hid (Step (fun x => ofP who x ∨ x = l) L w L2 w2) := HS1.out.trans (hS2'.mono (fun x h => Or.inl h))
            have hno := sentTo_not Hok'.out (Or.inr (Or.inr hall))
            have Hno := hide hno
            clear hA2 hS2 hS2' h18 hx1 hx2 hall hno
            go_wp2_with fail
            go_roundw
            case rel =>
              refine ⟨k + 1, L2, ea, m, ek, by omega, by go_num, rfl, ?_, ?_, ?_, HS2.out⟩
              · rw [HStep.out, Hno.out]; simp only [List.append_nil]; exact Hm.out
              · rw [HStep.out, Hno.out]; simp only [List.append_nil]; exact HR2.out
              · rw [HStep.out, Hno.out]; exact HA2.out
            case measure => simp [intOf]; omega
        · rw [hop] at HOpen
          have Hop : Hid (o.trip = true ∧ M1.now < o.unt) := by show _ ∧ _; simpa using hop
          clear hop
          go_wp2_with fail
          go_quiet (first | (go_at_call 90; exact Calls.quiet_of_same (HBusy.out _ (by exact E8.out))) | (go_at_call 91; exact Calls.quiet_of ((HOpen.out _ (by exact E3.out) (by exact E4.out)).mono (fun e w' h => h))))
          go_wp2_with fail
          go_roundw
          case rel =>
            have hno := sentTo_not Hok'.out (Or.inr (Or.inl Hop.out))
            refine ⟨k + 1, L1, ea, m, ek, by omega, by go_num, rfl, ?_, ?_, ?_, HS1.out.trans (Step.drewN L1 wr _)⟩
            · rw [HStep.out, hno]; simp only [List.append_nil]; exact Hm.out
            · rw [HStep.out, hno]; simp only [List.append_nil]; exact Hrow.out.keep (Step.drewN (p := fun _ => False) L1 wr _) (fun h => h)
            · rw [HStep.out, hno]; exact HA1.out.keep (Step.drewN (p := fun _ => False) L1 wr _) (fun _ h => h)
          case measure => simp [intOf]; omega
      · have hwb : (o.way != -1) = true := by simp [hw]
        rw [hwb] at HBusy
        have Hw := hide hw
        clear hw hwb
        go_wp2_with fail
        go_quiet (first | (go_at_call 90; exact Calls.quiet_of_same (HBusy.out _ (by exact E8.out))) | (go_at_call 91; exact Calls.quiet_of ((HOpen.out _ (by exact E3.out) (by exact E4.out)).mono (fun e w' h => h))))
        go_wp2_with fail
        go_roundw
        case rel =>
          have hno := sentTo_not Hok'.out (Or.inl Hw.out)
          refine ⟨k + 1, L1, ea, m, ek, by omega, by go_num, rfl, ?_, ?_, ?_, HS1.out.trans (Step.drewN L1 wr _)⟩
          · rw [HStep.out, hno]; simp only [List.append_nil]; exact Hm.out
          · rw [HStep.out, hno]; simp only [List.append_nil]; exact Hrow.out.keep (Step.drewN (p := fun _ => False) L1 wr _) (fun h => h)
          · rw [HStep.out, hno]; exact HA1.out.keep (Step.drewN (p := fun _ => False) L1 wr _) (fun _ h => h)
        case measure => simp [intOf]; omega
    · have hkn : k = n := by omega
      subst hkn
      go_wp2_with fail
      go_ret
      refine ⟨_, L1, rfl, ?_, HA1.out, HS1.out.fresh Hfr.out⟩
      rw [← Hm.out]
      exact Hrow.out
end Go.Proofs.YtojpjaifhjigfabGreatDoor

/- The end of a send, as plain data: settle and play together; the invariant. -/
namespace Go.Proofs.YtojpjaifhjigfabGreatDoor
open Go.RowKit Go.Maps

/-- The send to a destination is over, and its batch is what that makes of it. -/
def Ag.over (M : Ag) (d : Nat) (good : Bool) (draw : Int) : Ag := (M.settled d good draw).1.played (M.settled d good draw).2
/-- Of the first k destinations each send that took too long is over, one behind the other. -/
def Ag.overs (M : Ag) (draw : Int) : Nat → Ag
  | 0 => M
  | k + 1 => match M.os[k]? with
    | none => M.overs draw k
    | some o => if o.way ≠ -1 ∧ M.c.ti ≤ M.now - o.began then (M.overs draw k).over k false draw else M.overs draw k

theorem played_not0 (M : Ag) {e : Ev} (hk : e.kind ≠ 0) : M.played e = { M with bs := M.bs.modify e.pl (fun b => b.ended e.kind e.f), dead := if e.kind = 3 then M.dead ++ [e.pl] else M.dead } := by
  unfold Ag.played
  rw [if_neg hk]
theorem SetOk.played {M : Ag} {d : Nat} {o : Out} {p : Nat} {b : Bat} {r : Ret} {draw : Int} (h : SetOk M d o p b r draw) {e : Ev} (hk : e.kind ≠ 0) (hne : e.pl ≠ p) : SetOk (M.played e) d o p b r draw := by
  rw [played_not0 M hk]
  refine ⟨h.ho, h.way, ?_, h.hr, h.f0, h.f1, h.r0, h.r1, h.l0, h.l1, h.c, h.p1, h.p2, h.dr, h.n0, h.n1⟩
  show (M.bs.modify e.pl _)[p]? = some b
  rw [List.getElem?_modify]
  simp [hne, h.hb]
theorem settled_played {M : Ag} {d : Nat} {o : Out} {p : Nat} {b : Bat} {r : Ret} {draw : Int} (h : SetOk M d o p b r draw) (good : Bool) {e : Ev} (hk : e.kind ≠ 0) (hne : e.pl ≠ p) :
    (M.played e).settled d good draw = ((M.settled d good draw).1.played e, (M.settled d good draw).2) := by
  rw [settled_eq (h.played hk hne) good, settled_eq h good, played_not0 M hk]
  cases good
  · by_cases hd : M.c.at' ≤ b.fl + 1
    · simp only [Bool.false_eq_true, if_false, if_pos hd]
      rw [played_not0 _ hk]
      rfl
    · simp only [Bool.false_eq_true, if_false, if_neg hd]
      rw [played_not0 _ hk]
      rfl
  · simp only [if_true]
    rw [played_not0 _ hk]
    rfl
theorem settled_plays (d : Nat) (o : Out) (p : Nat) (b : Bat) (r : Ret) (draw : Int) (good : Bool) : ∀ (es : List Ev) (M : Ag), SetOk M d o p b r draw → (∀ e ∈ es, e.kind ≠ 0 ∧ e.pl ≠ p) →
    SetOk (es.foldl Ag.played M) d o p b r draw ∧ (es.foldl Ag.played M).settled d good draw = (es.foldl Ag.played (M.settled d good draw).1, (M.settled d good draw).2)
  | [], M, h, _ => ⟨h, rfl⟩
  | e :: es, M, h, he => by
    obtain ⟨h1, h2⟩ := he e (by simp)
    obtain ⟨i1, i2⟩ := settled_plays d o p b r draw good es (M.played e) (h.played h1 h2) (fun e' he' => he e' (by simp [he']))
    refine ⟨i1, ?_⟩
    rw [List.foldl_cons, i2, settled_played h good h1 h2]
    rfl

/-- What the events of giveUp speak of. -/
structure EvOf (M : Ag) (k : Nat) (e : Ev) (b : Bat) : Prop where
  kd : e.kind = 2 ∨ e.kind = 3
  f : e.f = 1
  at' : M.bs[e.pl]? = some b
  st : b.st = 1
  d : 0 ≤ b.dst ∧ b.dst < k
  f0 : 0 ≤ b.fl
  f1 : b.fl < M.c.at'
theorem settled_ev {M : Ag} {d : Nat} {o : Out} {p : Nat} {b : Bat} {r : Ret} {draw : Int} (h : SetOk M d o p b r draw) : ((M.settled d false draw).2.kind = 2 ∨ (M.settled d false draw).2.kind = 3) ∧ (M.settled d false draw).2.f = 1 ∧ (M.settled d false draw).2.pl = p := by
  rw [settled_eq h false]
  by_cases hd : M.c.at' ≤ b.fl + 1
  · simp [hd, Ev.of]
  · simp [hd, Ev.of]
theorem gaveUp_evs {M : Ag} {draw : Int} (h : GiveOk M draw) : ∀ k, (∀ e ∈ (M.gaveUp draw k).2, ∃ b, EvOf M k e b) ∧ ((M.gaveUp draw k).2.map Ev.pl).Nodup ∧ (M.gaveUp draw k).2.foldl Ag.played (M.gaveUp draw k).1 = M.overs draw k
  | 0 => ⟨fun e he => by simp [Ag.gaveUp] at he, by simp [Ag.gaveUp], rfl⟩
  | k + 1 => by
    obtain ⟨i1, i2, i3⟩ := gaveUp_evs h k
    have i1' : ∀ e ∈ (M.gaveUp draw k).2, ∃ b, EvOf M (k + 1) e b := fun e he => by
      obtain ⟨b, q⟩ := i1 e he
      exact ⟨b, q.kd, q.f, q.at', q.st, ⟨q.d.1, by have := q.d.2; omega⟩, q.f0, q.f1⟩
    unfold Ag.gaveUp Ag.overs
    cases ho : M.os[k]? with
    | none => exact ⟨i1', i2, i3⟩
    | some o =>
      simp only
      by_cases hw : o.way ≠ -1 ∧ M.c.ti ≤ M.now - o.began
      · rw [if_pos hw, if_pos hw]
        obtain ⟨p, b, r, hs, hst, hdst, hb, hfl⟩ := h.set (gaveUp_gave h k) ho hw.1
        obtain ⟨e1, e2, e3⟩ := settled_ev hs
        have hnew : ∀ e ∈ (M.gaveUp draw k).2, e.kind ≠ 0 ∧ e.pl ≠ p := fun e he => by
          obtain ⟨b', q⟩ := i1 e he
          refine ⟨by rcases q.kd with h | h <;> omega, fun e' => ?_⟩
          have := q.at'
          rw [e', hb] at this
          cases this
          have := q.d.2
          omega
        obtain ⟨s1, s2⟩ := settled_plays k o p b r draw false _ _ hs hnew
        refine ⟨fun e he => ?_, ?_, ?_⟩
        · rcases List.mem_append.1 he with h1 | h1
          · exact i1' e h1
          · obtain rfl := List.mem_singleton.1 h1
            exact ⟨b, e1, e2, by rw [e3]; exact hb, hst, ⟨by omega, by omega⟩, hs.f0, hfl⟩
        · rw [List.map_append, List.nodup_append]
          refine ⟨i2, by simp, fun x hx y hy => ?_⟩
          obtain ⟨e, he, rfl⟩ := List.mem_map.1 hx
          have : y = p := by simpa [e3] using hy
          rw [this]
          exact (hnew e he).2
        · rw [List.foldl_append, List.foldl_cons, List.foldl_nil]
          show Ag.played _ _ = ((M.overs draw k).settled k false draw).1.played ((M.overs draw k).settled k false draw).2
          rw [← i3, s2]
      · rw [if_neg hw, if_neg hw]
        exact ⟨i1', i2, i3⟩

theorem plays_ok : ∀ (es : List Ev) (M : Ag), (∀ e ∈ es, (e.kind = 1 ∨ e.kind = 2 ∨ e.kind = 3) ∧ ∃ b, EvOk M e b) → (es.map Ev.pl).Nodup → M.bs.length ≤ 120 → M.dead.length + es.length ≤ 1000 → PlaysOk M es
  | [], _, _, _, _, _ => trivial
  | e :: es, M, h, hn, h120, hd => by
    obtain ⟨hk, b, hb⟩ := h e (by simp)
    have hk0 : e.kind ≠ 0 := by rcases hk with h | h | h <;> omega
    simp only [List.map_cons, List.nodup_cons, List.length_cons] at hn hd
    refine ⟨Or.inr ⟨hk, h120, by omega, b, hb⟩, ?_⟩
    rw [played_not0 M hk0]
    refine plays_ok es _ (fun e' he' => ?_) hn.2 (by simpa using h120) ?_
    · obtain ⟨hk', b', hb'⟩ := h e' (by simp [he'])
      refine ⟨hk', b', ?_, hb'.st, hb'.f0, hb'.f1, hb'.f, hb'.d, hb'.t⟩
      show (M.bs.modify e.pl _)[e'.pl]? = some b'
      have hne : e.pl ≠ e'.pl := fun e'' => hn.1 (by rw [e'']; exact List.mem_map_of_mem he')
      rw [List.getElem?_modify]
      simp [hne, hb'.at']
    · show (if e.kind = 3 then M.dead ++ [e.pl] else M.dead).length + es.length ≤ 1000
      split
      · simp; omega
      · omega
end Go.Proofs.YtojpjaifhjigfabGreatDoor

/- Tick, Reply: the program's calls. -/
namespace Go.Proofs.YtojpjaifhjigfabGreatDoor
open Go.RowKit Go.Maps

def Ag.later (M : Ag) (ms : Int) : Ag := { M with now := M.now + ms }
/-- The agent behind the time-outs. -/
def Ag.timed (M : Ag) (draw : Int) : Ag := (M.gaveUp draw M.os.length).1.recorded (M.gaveUp draw M.os.length).2
/-- What Tick makes of an agent, and what it sends. -/
def Ag.ticked (M : Ag) (ms draw : Int) : Ag × List Sd := ((M.later ms).timed draw).sentOut ((M.later ms).timed draw).os.length
/-- What Reply makes of an agent. -/
def Ag.replied (M : Ag) (d : Nat) (good : Bool) (draw : Int) : Ag := (M.settled d good draw).1.recorded [(M.settled d good draw).2]

theorem agCells_set16 (bq bm : Nat) (tv dv nv rv ov : Value) (M : Ag) (ms : Int) : (agCells bq bm tv dv nv rv ov M).setIfInBounds 16 (.int .i64 (M.now + ms)) = agCells bq bm tv dv nv rv ov (M.later ms) := by
  apply Array.ext'
  rw [Array.toList_setIfInBounds]
  rfl
theorem later_step {w : World} {L : Labs} {who g : Nat} {M : Ag} (h : AgentAt w L who g M) (ms : Int) : AgentAt (w.setCell ⟨g, 16, none⟩ (.int .i64 (M.now + ms))) L who g (M.later ms) ∧ Step (ofP who) L w L (w.setCell ⟨g, 16, none⟩ (.int .i64 (M.now + ms))) := by
  obtain ⟨bq, bm, cn, tv, dv, nv, rv, ov, h⟩ := h
  have s : Step (fun q => q = some (who, .ag)) L w L (w.setCell ⟨g, 16, none⟩ (.int .i64 (M.now + ms))) := Step.setCell _ _ _ _ h.blk.2
  refine ⟨⟨bq, bm, cn, tv, dv, nv, rv, ov, ⟨?_, h.blk.2⟩, h.tk.keep s (by simp), h.qs.keep s (by simp) (by simp), h.dd.keep s (by simp), h.nm.keep s (by simp), h.rt.keep s (by simp), h.ol.keep s (by simp) (by simp) (by simp), h.cm.keep s (by simp)⟩, s.mono (fun l h => ⟨_, h⟩)⟩
  rw [← agCells_set16]
  exact h.blk.1.set 16 _

set_option maxRecDepth 100000 in
set_option maxHeartbeats 1000000 in
theorem tick_bad (A : Nat → Addr) (g : Nat) (ms draw : Int) (w : World) (hS : Sents.Holds w 197 gl 11 A) (hbad : inB ms 0 60000 = false ∨ draw < 0) :
    Calls Tryz.prog 48 #[.pointer (some ⟨g, 0, none⟩), .int .i64 ms, .int .i64 draw] w fun e w' => e = .returned (.tuple #[.slice none 0 0, ev A 9]) ∧ Below w.heap.size w w' := by
  have HS := hide hS
  have HH := hide (fun V => holds_any ms 0 60000 V)
  clear hS
  cases hin : inB ms 0 60000
  · rw [hin] at HH
    clear hin hbad
    go_enter Tryz.func48, Tryz.ntmps48
    go_wp2_with fail
    refine (HH.out _).mono ?_
    rintro e w1 ⟨rfl, hb1⟩
    have hB1 : Below w.heap.size w w1 := ((Below.refl _ _).alloc (Nat.le_refl _) _).trans (hb1.mono (by simp))
    have hc := (HS.out.below hB1).cell 9 (by decide)
    simp only [gl, List.getD_cons_zero, List.getD_cons_succ] at hc
    have HB1 := hide hB1
    clear hb1 hB1
    go_wp2_with fail
    go_quiet (fail)
    go_wp2_with fail
    go_ret2
    exact ⟨rfl, below_drewN HB1.out _⟩
  · rw [hin] at HH
    have hd : draw < 0 := by
      rcases hbad with h | h
      · rw [hin] at h; cases h
      · exact h
    clear hin hbad
    go_enter Tryz.func48, Tryz.ntmps48
    go_wp2_with fail
    refine (HH.out _).mono ?_
    rintro e w1 ⟨rfl, hb1⟩
    have hB1 : Below w.heap.size w w1 := ((Below.refl _ _).alloc (Nat.le_refl _) _).trans (hb1.mono (by simp))
    have hc := (HS.out.below hB1).cell 9 (by decide)
    simp only [gl, List.getD_cons_zero, List.getD_cons_succ] at hc
    have HB1 := hide hB1
    clear hb1 hB1
    go_wp2_with fail
    go_quiet (fail)
    go_wp2_with fail
    go_ret2
    exact ⟨rfl, below_drewN HB1.out _⟩

/-- What Tick leaves: sends in memory that nobody else has, and the agent. -/
def TickedTo (w : World) (L : Labs) (who g : Nat) (x : Ag × List Sd) (e : Ending) (w' : World) : Prop := ∃ v L' l', e = .returned (.tuple #[v, .nilIface]) ∧ RowAt w' L' l' 111 4 v x.2.length (x.2.flatMap Sd.cells) ∧ ¬ ofP who l' ∧ (∀ k, k < w.heap.size → L k ≠ l') ∧ AgentAt w' L' who g x.1 ∧ Step (ofP who) L w L' w'

/-- What Tick wants. -/
structure TickOk (M : Ag) (draw : Int) : Prop where
  g : GiveOk M draw
  bs : M.bs.length ≤ 120
  ten : ∀ b ∈ M.bs, b.ten.length ≤ 16
  dl : M.dead.length ≤ 120
  lg : M.log.length ≤ 800000000000000
  so : SendOk (M.timed draw)
  de : ∀ (d : Nat) (o : Out), (M.timed draw).os[d]? = some o → DestOk (M.timed draw) o

theorem TickOk.plays {M : Ag} {draw : Int} (h : TickOk M draw) : PlaysOk (M.gaveUp draw M.os.length).1 (M.gaveUp draw M.os.length).2 ∧ (∀ e ∈ (M.gaveUp draw M.os.length).2, e.Tell) := by
  obtain ⟨h1, h2, _⟩ := gaveUp_evs h.g M.os.length
  have hg := gaveUp_gave h.g M.os.length
  have hl := gaveUp_len (M := M) (draw := draw) M.os.length
  have ho4 := h.g.o4
  have hat := h.g.c.at'
  refine ⟨plays_ok _ _ (fun e he => ?_) h2 (by rw [hg.bs]; exact h.bs) (by rw [hg.dead]; have := h.dl; omega), fun e he => ?_⟩
  · obtain ⟨b, q⟩ := h1 e he
    refine ⟨by rcases q.kd with e | e <;> omega, b, by rw [hg.bs]; exact q.at', q.st, q.f0, by have := q.f1; omega, by rw [q.f]; omega, ⟨q.d.1, by have := q.d.2; omega⟩, h.ten b (List.mem_of_getElem? q.at')⟩
  · obtain ⟨b, q⟩ := h1 e he
    have hp := (List.getElem?_eq_some_iff.1 q.at').1
    have := h.bs
    exact Or.inr ⟨by rcases q.kd with e | e <;> omega, by rcases q.kd with e | e <;> omega, by omega, by rw [q.f]; omega⟩

set_option maxRecDepth 100000 in
set_option maxHeartbeats 2000000 in
theorem tick_good (L : Labs) (who g : Nat) (M : Ag) (ms draw : Int) (w : World) (hA : AgentAt w L who g M) (hin : inB ms 0 60000 = true) (hd : 0 ≤ draw) (hn0 : 0 ≤ M.now) (hn1 : M.now ≤ 900000000000000000) (h : TickOk (M.later ms) draw) :
    Calls Tryz.prog 48 #[.pointer (some ⟨g, 0, none⟩), .int .i64 ms, .int .i64 draw] w fun e w' => TickedTo w L who g (M.ticked ms draw) e w' := by
  have hms : 0 ≤ ms ∧ ms ≤ 60000 := by simpa [inB] using hin
  have HH := hide (fun V => holds_any ms 0 60000 V)
  rw [hin] at HH
  obtain ⟨M1, hM1⟩ : ∃ M1, M.later ms = M1 := ⟨_, rfl⟩
  obtain ⟨x1, hx1⟩ : ∃ x, M1.gaveUp draw M1.os.length = x := ⟨_, rfl⟩
  obtain ⟨hpl, htl⟩ := h.plays
  have hlen := gaveUp_len (M := M.later ms) (draw := draw) (M.later ms).os.length
  have ho4 := h.g.o4
  have hlog := (gaveUp_gave h.g (M.later ms).os.length).log
  have hlg := h.lg
  have HTk : Hid (M.ticked ms draw = (x1.1.recorded x1.2).sentOut (x1.1.recorded x1.2).os.length) := by
    show _ = _
    unfold Ag.ticked Ag.timed
    rw [hM1, hx1]
  have hso := h.so
  have hde := h.de
  unfold Ag.timed at hso hde
  rw [hM1] at hpl htl hlen ho4 hlog hlg hso hde
  rw [hx1] at hpl htl hlen hlog hso hde
  have HG : Hid (∀ W L0 l, AgentAt W L0 who g M1 → ¬ ofP who l → (∀ k, k < W.heap.size → L0 k ≠ l) → Calls Tryz.prog 71 #[.pointer (some ⟨g, 0, none⟩), .int .i64 draw] W fun e w' => GaveUp W L0 l who g x1 e w') := fun W L0 l hW hl hf => by
    have := giveUp_any L0 l who g M1 draw W hl hf hW (by rw [← hM1]; exact h.g)
    rw [hx1] at this
    exact this
  have HR : Hid (∀ W L0 l v, AgentAt W L0 who g x1.1 → ¬ ofP who l → RowAt W L0 l 115 7 v x1.2.length (x1.2.flatMap Ev.cells) → Calls Tryz.prog 70 #[.pointer (some ⟨g, 0, none⟩), v] W fun r w' => r = .returned (.tuple #[]) ∧ Turned W L0 who g (x1.1.recorded x1.2) w') := fun W L0 l v hW hl hr =>
    record_any L0 l who g v x1.1 x1.2 W hW hl hr hpl htl (by omega) (by rw [hlog]; omega)
  have HSO : Hid (∀ W L0 l, AgentAt W L0 who g (x1.1.recorded x1.2) → ¬ ofP who l → (∀ k, k < W.heap.size → L0 k ≠ l) → Calls Tryz.prog 72 #[.pointer (some ⟨g, 0, none⟩)] W fun e w' => SentAll W L0 l who g ((x1.1.recorded x1.2).sentOut (x1.1.recorded x1.2).os.length) e w') := fun W L0 l hW hl hf => sendOut_any L0 l who g _ W hl hf hW hso hde
  have HA := hide hA
  have HM1 := hide hM1
  clear hA hpl htl hlen ho4 hlog hlg hso hde h hM1 hx1 hin
  go_enter Tryz.func48, Tryz.ntmps48
  go_wp2_with fail
  refine (HH.out _).mono ?_
  rintro e w1 ⟨rfl, hb1⟩
  have hB1 : Below w.heap.size w w1 := ((Below.refl _ _).alloc (Nat.le_refl _) _).trans (hb1.mono (by simp))
  have hA1 := HA.out.keep (Step.of_below (p := fun _ => False) hB1) (fun _ h => h)
  have c16 : w1.cell? ⟨g, 16, none⟩ = some (.int .i64 M.now) := by obtain ⟨bq, bm, cn, tv, dv, nv, rv, ov, h⟩ := hA1; exact h.blk.1.cell 16
  have f16 : w1.frozen? ⟨g, 16, none⟩ = false := agent_frozen hA1 16
  obtain ⟨hA2, hS2⟩ := later_step hA1 ms
  rw [HM1.out] at hA2
  have HA2 := hide hA2
  have HS2 : Hid (Step (ofP who) L w L (w1.setCell ⟨g, 16, none⟩ (.int .i64 (M.now + ms)))) := (Step.of_below hB1).trans hS2
  obtain ⟨N, hN⟩ := fresh_owner L (w1.setCell ⟨g, 16, none⟩ (.int .i64 (M.now + ms))).heap.size
  have hev1 : ¬ ofP who (some (N + who + 1, Part.ag)) := not_ofP (by omega) _
  have hev2 : ∀ k, k < (w1.setCell ⟨g, 16, none⟩ (.int .i64 (M.now + ms))).heap.size → L k ≠ some (N + who + 1, Part.ag) := fun k hk e => by have := hN k hk _ _ e; omega
  have Hev1 := hide hev1
  have Hev2 := hide hev2
  clear hb1 hB1 hA1 hA2 hS2 hN hev1 hev2
  go_upto_region 5 with fail
  generalize hV : World.setCell w1 _ _ = V at *
  clear hV
  go_cut [] (fun wx => ∃ L3, AgentAt wx L3 who g (x1.1.recorded x1.2) ∧ Step (ofP who) L w L3 wx)
  case first =>
    go_region_with (first
      | (go_at_call 71; refine (HG.out _ L _ (by first | exact HA2.out | exact HA2.out.keep (Step.drew (p := fun _ => False) L _) (fun _ h => h)) Hev1.out (by exact Hev2.out)).mono ?_; rintro e w3 ⟨v3, L3, rfl, hr3, hA3, hS3⟩; have Hr3 := hide hr3; have HA3 := hide hA3; have HS3 := hide hS3; clear hr3 hA3 hS3)
      | (go_at_call 70; refine (HR.out _ L3 _ v3 HA3.out Hev1.out Hr3.out).mono ?_; rintro e w4 ⟨rfl, L4, hA4, hS4⟩; have HA4 := hide hA4; have HS4 := hide hS4; clear hA4 hS4))
    all_goals
      go_wp2_with fail
      go_meet
      exact ⟨L4, HA4.out, (HS2.out.trans ((Step.drew L _).trans HS3.out)).trans HS4.out⟩
  case rest =>
  obtain ⟨L3, hA3, hS3⟩ := hcut
  generalize hwc : wc = X at *
  have HA3 := hide hA3
  have HS3 := hide hS3
  obtain ⟨N2, hN2⟩ := fresh_owner L3 X.heap.size
  have hse1 : ¬ ofP who (some (N2 + who + 1, Part.ag)) := not_ofP (by omega) _
  have hse2 : ∀ k, k < X.heap.size → L3 k ≠ some (N2 + who + 1, Part.ag) := fun k hk e => by have := hN2 k hk _ _ e; omega
  have HSo := hide (HSO.out X L3 _ hA3 hse1 hse2)
  have Hse1 := hide hse1
  have Hse2 := hide hse2
  clear hwc hA3 hS3 hN2 hse1 hse2
  go_wp2_with fail
  refine HSo.out.mono ?_
  rintro e w5 ⟨v5, L5, rfl, hr5, hA5, hS5⟩
  have Hr5 := hide hr5
  have HA5 := hide hA5
  have HS5 := hide hS5
  clear hr5 hA5 hS5
  go_wp2_with fail
  go_ret2
  rw [HTk.out]
  exact ⟨v5, L5, _, rfl, Hr5.out, Hse1.out, fun k hk e => Hse2.out k (Nat.lt_of_lt_of_le hk HS3.out.size) (by rw [HS3.out.lab k hk]; exact e), HA5.out, HS3.out.trans HS5.out⟩
end Go.Proofs.YtojpjaifhjigfabGreatDoor
