/- Steps of the proof (several texts in one): RunTick, RunReply, RunReply2. -/
import Derived.Test.YtojpjaifhjigfabGreatDoorMTwo22

/- conduitkeep's run: tick. -/
namespace Go.Proofs.YtojpjaifhjigfabGreatDoor
open Go.RowKit Go.Maps

theorem infoSend1 : (Tryz.prog.info? 111).map (·.size) = some 4 := by kernel_rfl
theorem SentBy.nil_eq {M M' : Ag} (h : SentBy M [] M') : M = M' := by cases h; rfl
theorem SentBy.uncons {M M' : Ag} {s : Sd} {l : List Sd} (h : SentBy M (s :: l) M') : ∃ (d p : Nat) (o o' : Out) (b : Bat) (r : Ret), s.d = d ∧ M.os[d]? = some o ∧ o.way = -1 ∧ s.try' = o.sends + 1 ∧ M.bs[p]? = some b ∧ b.st = 1 ∧ b.dst = d ∧ s.id = b.id ∧ s.body = b.body ∧ M.rt[p]? = some r ∧ r.fr ≤ M.now ∧ o'.way = p ∧ o'.sends = o.sends + 1 ∧ o'.began = M.now ∧ SentBy { M with os := M.os.set d o' } l M' := by
  cases h with
  | cons _ _ _ _ d p o o' b r h1 h2 h3 h4 h5 h6 h7 h8 h9 h10 h11 h12 h13 h14 h15 => exact ⟨d, p, o, o', b, r, h1, h2, h3, h4, h5, h6, h7, h8, h9, h10, h11, h12, h13, h14, h15⟩
/-- Sends only grow. -/
theorem SentBy.mono {M M' : Ag} {l : List Sd} (h : SentBy M l M') : ∀ (d : Nat) (o : Out), M.os[d]? = some o → ∃ o', M'.os[d]? = some o' ∧ o.sends ≤ o'.sends := by
  induction h with
  | nil M => exact fun d o ho => ⟨o, ho, Int.le_refl _⟩
  | cons M M' s l d p o o' b r h1 h2 h3 h4 h5 h6 h7 h8 h9 h10 h11 h12 h13 h14 _ ih =>
    intro d1 o1 ho1
    by_cases e : d = d1
    · subst e
      have hl := (List.getElem?_eq_some_iff.1 h2).1
      rw [h2] at ho1
      cases ho1
      obtain ⟨o2, q1, q2⟩ := ih d o' (by show (M.os.set d o')[d]? = _; rw [List.getElem?_set_self hl])
      exact ⟨o2, q1, by omega⟩
    · exact ih d1 o1 (by show (M.os.set d o')[d1]? = _; rw [List.getElem?_set_ne e]; exact ho1)
theorem sends_bound {M M' : Ag} {l : List Sd} {d t : Nat} {o o' : Out} (h : SentBy { M with os := M.os.set d o' } l M') (hi : Inv M' t) (ho : M.os[d]? = some o) (h2 : o'.sends = o.sends + 1) : o.sends + 1 ≤ t := by
  have hl := (List.getElem?_eq_some_iff.1 ho).1
  obtain ⟨o2, q1, q2⟩ := h.mono d o' (by show (M.os.set d o')[d]? = _; rw [List.getElem?_set_self hl])
  have := (hi.os d o2 q1).2.2.2.2.2.2.1
  omega
/-- What tick brings. -/
def TickR (w : World) (gr g cm : Nat) (zs : List Int) (N : Nat) (x : Ag × List Sd) (t : Nat) (R : Rn) (e : Ending) (w' : World) : Prop :=
  ∃ v R' L', e = .returned v ∧ RowAt w' L' (some (7, .ag)) 111 4 v x.2.length (x.2.flatMap Sd.cells) ∧ RK w w' L' gr g cm zs N R' x.1 t ∧ R'.n = R.n

set_option maxRecDepth 100000 in
set_option maxHeartbeats 8000000 in
theorem rtick_any (w wr : World) (L : Labs) (gr g cm : Nat) (zs : List Int) (N : Nat) (R : Rn) (M : Ag) (t : Nat) (ms draw : Int) (hK : RK w wr L gr g cm zs N R M t) (ht : t + 10 ≤ 4000000000000) (h0 : 0 ≤ ms) (h1 : ms ≤ 60000) (hd : 0 ≤ draw) :
    Calls Tryz.prog 25 #[.pointer (some ⟨gr, 0, none⟩), .int .i64 ms, .int .i64 draw] wr fun e w' => TickR w gr g cm zs N (M.ticked ms draw) (t + 1) R e w' := by
  obtain ⟨ht0, ht1⟩ := hK.time0
  obtain ⟨fv, wv, hP⟩ := hK.at'
  have c14 : wr.cell? ⟨gr, 14, none⟩ = some (.int .i64 R.time) := hP.blk.1.cell 14
  have f14 : wr.frozen? ⟨gr, 14, none⟩ = false := hP.blk.1.frozen 14
  obtain ⟨hP1, hS1⟩ := hP.setTime (R.time + ms)
  have hwrap : IntKind.i64.wrap (R.time + ms) = R.time + ms := IntWalk.i64_in _ (by omega)
  have k0 : (wr.setCell ⟨gr, 14, none⟩ (.int .i64 (R.time + ms))).cell? ⟨gr, 0, none⟩ = some (.pointer (some ⟨g, 0, none⟩)) := hP1.blk.1.cell 0
  have hA1 := hK.ag.keep hS1 (fun q e => by cases e)
  have HTk := hide (rtick_call L g t M ms draw _ hA1 hK.inv (by omega) h0 h1 hd)
  have HP1 := hide hP1
  have HS1 := hide hS1
  have HK := hide hK
  generalize hW1 : wr.setCell ⟨gr, 14, none⟩ (.int .i64 (R.time + ms)) = W1 at *
  clear hP hP1 hS1 hA1 hK
  go_enter Tryz.func25, Tryz.ntmps25
  go_wp2_with fail
  refine HTk.out.mono ?_
  rintro e w2 ⟨va, vk, L2, rfl, hRow, hAe, hS2⟩
  have hP2 := HP1.out.keep hS2 (fun q => not_ofP (by decide) q)
  have d16 : w2.cell? ⟨gr, 16, none⟩ = some (.bool true) := hP2.blk.1.cell 16
  have f16 : w2.frozen? ⟨gr, 16, none⟩ = false := hP2.blk.1.frozen 16
  obtain ⟨hP3, hS3⟩ := hP2.setOk
  have hgrW : gr < W1.heap.size := HP1.out.blk.1.lt
  generalize hte : M.ticked ms draw = te at *
  obtain ⟨Me, S⟩ := te
  simp only at hRow hAe ⊢
  have Hte := hide hte
  have HRow := hide hRow
  have HAe := hide hAe
  have HS2 := hide hS2
  have HP3 := hide hP3
  have HS3 := hide hS3
  clear hRow hAe hS2 hP2 hP3 hS3 hte HTk HP1
  go_wp2_with fail
  generalize hW3 : w2.setCell ⟨gr, 16, none⟩ (.bool true) = W3 at *
  clear hW3 d16 f16 c14 f14 k0
  have hnd : R.ws.length = M.os.length := HK.out.rw'.wl
  have ho4 : M.os.length ≤ 4 := by
    have h1 := HK.out.inv.ol
    have h2 := (Cfg.ok HK.out.inv.good.1).d
    omega
  obtain ⟨nd, hnd'⟩ : ∃ nd, M.os.length = nd := ⟨_, rfl⟩
  have HOv : Hid (∀ k, OversOk { R with time := R.time + ms } (M.later ms) draw k) := fun k => overs_ok (HK.out.rw'.later ms) (HK.out.inv.later h0 h1) (by omega) hd k
  have hcM : M.c = madeC zs := HK.out.c
  go_loopw [9] (fun i wr => ∃ k : Nat, k ≤ nd ∧ i = .int .i64 k ∧ RunAt wr L2 gr g cm (madeC zs) (Rn.overs { R with time := R.time + ms } (madeC zs) k) ∧ AgentAt wr L2 1 g Me ∧ Step (ofP 0) L2 w2 L2 wr) (fun i _ => nd - (intOf i).toNat)
  case atStart => exact ⟨0, Nat.zero_le _, rfl, ⟨_, _, HP3.out⟩, HAe.out.keep HS3.out (fun q e => by cases e), step0 HS3.out⟩
  case round =>
    obtain ⟨k, hk, rfl, hR, hA, hS⟩ := hrel
    have hov := HOv.out k
    have hRW := hov.rw'
    rw [show (M.later ms).c = madeC zs from hcM] at hRW
    have hwl : (Rn.overs { R with time := R.time + ms } (madeC zs) k).ws.length = nd := by rw [overs_wlen]; exact hnd.trans hnd'
    have htm : (Rn.overs { R with time := R.time + ms } (madeC zs) k).time = R.time + ms := by have := hov.time.1; rw [show (M.later ms).c = madeC zs from hcM] at this; exact this
    by_cases hlt : k < nd
    · have hltI : (k : Int) < (nd : Int) := by omega
      obtain ⟨y, hy⟩ : ∃ y, R.ws[k]? = some y := ⟨_, List.getElem?_eq_getElem (by omega)⟩
      obtain ⟨o, ho⟩ : ∃ o, M.os[k]? = some o := ⟨_, List.getElem?_eq_getElem (by omega)⟩
      have hyk : (Rn.overs { R with time := R.time + ms } (madeC zs) k).ws[k]? = some y := by have := hov.ws k (Nat.le_refl _); rw [show (M.later ms).c = madeC zs from hcM] at this; exact this.trans hy
      obtain ⟨yw1, yw2, yw3⟩ := HK.out.rw'.ws k y o hy ho
      obtain ⟨_, _, _, _, _, _, _, ob0, ob1⟩ := HK.out.inv.os k o ho
      have hway := HK.out.inv.way k o ho
      have hsuc := Rn.overs_succ { R with time := R.time + ms } (madeC zs) k
      rw [show ({ R with time := R.time + ms } : Rn).ws[k]? = some y from hy] at hsuc
      simp only at hsuc
      obtain ⟨fv', wv', hP'⟩ := hR
      obtain ⟨gw, wk, rfl, _, hcw, _⟩ := hP'.way hyk
      rw [hwl] at hP'
      have c13 : wr.cell? ⟨gr, 13, none⟩ = some (.slice (some ⟨gw, 0, none⟩) nd wk) := hP'.blk.1.cell 13
      have c14 : wr.cell? ⟨gr, 14, none⟩ = some (.int .i64 (R.time + ms)) := by have := hP'.blk.1.cell 14; rw [show _ = _ from this]; simp [runCells, htm]
      have c7 : wr.cell? ⟨gr, 7, none⟩ = some (.int .i64 (madeC zs).ti) := hP'.blk.1.cell 7
      have y0 : wr.cell? ⟨gw, k * 3, none⟩ = some (.int .i64 y.f) := hcw 0 _ rfl
      have y2 : wr.cell? ⟨gw, k * 3 + 2, none⟩ = some (.int .i64 y.bg) := hcw 2 _ rfl
      have hti := (Cfg.ok (show GoodC (madeC zs) (DT (madeT zs N)) from by have := HK.out.inv.good; rw [HK.out.c, HK.out.D] at this; exact this).1).ti
      have HR : Hid (RunAt wr L2 gr g cm (madeC zs) (Rn.overs { R with time := R.time + ms } (madeC zs) k)) := ⟨_, _, hP'⟩
      have HA := hide hA
      have HS := hide hS
      have Hsuc := hide hsuc
      have hnow : M.now = R.time := HK.out.rw'.time.symm
      have hnw0 := HK.out.inv.nw0
      clear hA hS hP' hcw hsuc
      by_cases hf : 0 ≤ y.f
      · have hfd : decide (0 ≤ y.f) = true := decide_eq_true hf
        have hne : o.way ≠ -1 := by omega
        have hbg := yw3 hne
        have hwr2 : IntKind.i64.wrap (R.time + ms - y.bg) = R.time + ms - y.bg := IntWalk.i64_in _ (by omega)
        by_cases hl : (madeC zs).ti ≤ R.time + ms - y.bg
        · have hld : decide ((madeC zs).ti ≤ R.time + ms - y.bg) = true := decide_eq_true hl
          obtain ⟨p, b, hp, hb⟩ : ∃ (p : Nat) (b : Bat), o.way = p ∧ M.bs[p]? = some b := by
            rcases hway with h | ⟨p, b, h2, h3, _⟩
            · exact absurd h hne
            · exact ⟨p, b, h2, h3⟩
          have hrlen := hRW.len
          obtain ⟨f, hfp⟩ : ∃ f, (Rn.overs { R with time := R.time + ms } (madeC zs) k).fs[p]? = some f := by
            have hmap := hov.fb
            rw [show (M.later ms).c = madeC zs from hcM] at hmap
            have hlen := congrArg List.length hmap
            simp only [List.length_map] at hlen
            refine ⟨_, List.getElem?_eq_getElem ?_⟩
            rw [hlen]
            have := (List.getElem?_eq_some_iff.1 hb).1
            rw [HK.out.rw'.len]
            exact this
          have HOver := hide (fun W (hW : RunAt W L2 gr g cm (madeC zs) (Rn.overs { R with time := R.time + ms } (madeC zs) k)) => kover_any L2 gr g cm (madeC zs) _ k p y f false W hW hyk (yw1.trans hp) hfp (by rw [htm]; omega) (by have := (Cfg.ok (show GoodC (madeC zs) (DT (madeT zs N)) from by have := HK.out.inv.good; rw [HK.out.c, HK.out.D] at this; exact this).1); have h2 := this.ba; have h3 := this.ca; omega))
          have Hsuc2 : Hid (Rn.overs { R with time := R.time + ms } (madeC zs) (k + 1) = (Rn.overs { R with time := R.time + ms } (madeC zs) k).over (madeC zs).ba k false) := by rw [Hsuc.out, if_pos ⟨hf, hl⟩]; rfl
          clear hov hRW hwl htm hy ho hyk yw1 yw2 yw3 hway hfp hb hp
          go_wp2_with fail
          go_quiet (fail)
          go_wp2_with fail
          refine (HOver.out _ (HR.out.keep (Step.drewN (p := fun _ => False) L2 wr _) (fun _ h => h))).mono ?_
          rintro e w5 ⟨rfl, hR5, hS5⟩
          have HR5 := hide hR5
          have HS5 : Hid (Step (ofP 0) L2 wr L2 w5) := (Step.drewN L2 wr _).trans hS5
          clear hR5 hS5
          go_wp2_with fail
          go_roundw
          case rel => exact ⟨k + 1, by omega, by go_num, by rw [Hsuc2.out]; exact HR5.out, HA.out.keep HS5.out (fun q => not_ofP (by decide) q), HS.out.trans HS5.out⟩
          case measure => simp [intOf]; omega
        · have hld : decide ((madeC zs).ti ≤ R.time + ms - y.bg) = false := decide_eq_false hl
          have Hsuc2 : Hid (Rn.overs { R with time := R.time + ms } (madeC zs) (k + 1) = Rn.overs { R with time := R.time + ms } (madeC zs) k) := by rw [Hsuc.out, if_neg (fun h => hl h.2)]; rfl
          clear hov hRW hwl htm hy ho hyk yw1 yw2 yw3 hway
          go_wp2_with fail
          go_quiet (fail)
          go_wp2_with fail
          go_roundw
          case rel => exact ⟨k + 1, by omega, by go_num, by rw [Hsuc2.out]; exact HR.out.keep (Step.drewN (p := fun _ => False) L2 wr _) (fun _ h => h), HA.out.keep (Step.drewN (p := fun _ => False) L2 wr _) (fun _ h => h), HS.out.trans (Step.drewN L2 wr _)⟩
          case measure => simp [intOf]; omega
      · have hfd : decide (0 ≤ y.f) = false := decide_eq_false hf
        have Hsuc2 : Hid (Rn.overs { R with time := R.time + ms } (madeC zs) (k + 1) = Rn.overs { R with time := R.time + ms } (madeC zs) k) := by rw [Hsuc.out, if_neg (fun h => hf h.1)]; rfl
        clear hov hRW hwl htm hy ho hyk yw1 yw2 yw3 hway
        go_wp2_with fail
        go_quiet (fail)
        go_wp2_with fail
        go_roundw
        case rel => exact ⟨k + 1, by omega, by go_num, by rw [Hsuc2.out]; exact HR.out.keep (Step.drewN (p := fun _ => False) L2 wr _) (fun _ h => h), HA.out.keep (Step.drewN (p := fun _ => False) L2 wr _) (fun _ h => h), HS.out.trans (Step.drewN L2 wr _)⟩
        case measure => simp [intOf]; omega
    · obtain rfl : nd = k := by omega
      have hltI : ¬ ((nd : Int) < (nd : Int)) := by omega
      obtain ⟨l, hby, hfew, hll⟩ := ticked_by HK.out.inv (by omega) h0 h1 hd (ms := ms) (draw := draw)
      rw [Hte.out, hnd'] at hby hfew
      simp only at hby hfew
      obtain ⟨e1, e2, e3, e4, e5, e6, e7, e8, e9⟩ := hby.same
      have hInvE : Inv Me (t + 1) := by have := HK.out.inv.ticked (ms := ms) (draw := draw) (by omega) h0 h1 hd; rw [Hte.out] at this; exact this
      have hLinvE : LInv Me := by have := HK.out.linv.ticked HK.out.inv (ms := ms) (draw := draw) (by omega) h0 h1 hd; rw [Hte.out] at this; exact this
      obtain ⟨i1, _, _, _, i5, i6⟩ := overs_os (HK.out.inv.later h0 h1) (by omega) hd nd
      have HLg : Hid (Me.log.length ≤ 15 * (t + 1) + 200 * Me.bs.length) := by
        have q1 : Me.log = l := e8
        have q2 : Me.bs.length = M.bs.length := by
          rw [e4]
          have h1 := hRW.len
          have h2 := HK.out.rw'.len
          have h3 := congrArg List.length hov.fb
          simp only [List.length_map] at h3
          rw [show (M.later ms).c = madeC zs from hcM] at h3
          show ((M.later ms).overs draw nd).bs.length = _
          omega
        have q3 := HK.out.lg
        show _ ≤ _
        rw [q1, q2]
        omega
      have HPos : Hid (∀ (d : Nat) (o : Out), ({ (M.later ms).overs draw nd with log := l } : Ag).os[d]? = some o → 0 ≤ o.sends) := fun d o ho => (i1.os d o ho).2.2.2.2.2.1
      have hcE : Me.c = madeC zs := e1.trans (i6.trans hcM)
      obtain ⟨R1, hR1⟩ : ∃ R1, Rn.overs { R with time := R.time + ms } (madeC zs) nd = R1 := ⟨_, rfl⟩
      have hfb := hov.fb
      have hsn := hov.sn
      have hgo := hov.goes
      have htn := hov.time
      rw [show (M.later ms).c = madeC zs from hcM, hR1] at hfb hsn htn
      rw [show (M.later ms).c = madeC zs from hcM] at hgo
      rw [hR1] at hR hRW hwl
      have hfb' : R1.fs.map Fa.b = M.bs := hfb.trans HK.out.bs
      have hlenE : Me.bs.length = R1.fs.length := by rw [e4]; exact hRW.len.symm
      have hlen1 : R1.fs.length = R.fs.length := by have := congrArg List.length hfb; simpa using this
      have h100 : R1.fs.length ≤ 100 := by rw [hlen1, ← HK.out.n]; exact HK.out.n100
      have hidsE : ∀ (i : Nat) b, Me.bs[i]? = some b → b.id = kid i := fun i b hb => by
        have hil : i < M.bs.length := by have := (List.getElem?_eq_some_iff.1 hb).1; rw [hlenE, hlen1, HK.out.rw'.len] at this; exact this
        obtain ⟨x, hx⟩ : ∃ x, M.bs[i]? = some x := ⟨_, List.getElem?_eq_getElem hil⟩
        rw [e4] at hb
        have := (hgo i x b hx hb).same.2.2.1
        rw [this]
        exact HK.out.ids i x hx
      have hgoE : ∀ (i : Nat) (f : Fa) (b : Bat), R1.fs[i]? = some f → Me.bs[i]? = some b → Goes (madeC zs).at' f.b b := fun i f b hf hb => by
        rw [e4] at hb
        exact hgo i f.b b (map_at hfb' hf) hb
      have HLk := hide (klook_any L2 gr g cm (madeC zs) R1 Me wr hR hA hlenE (by omega) (fun i b hb => ids_find hidsE (by rw [hlenE]; omega) hb) hgoE)
      have hRW2 : RW { R1 with fs := looked R1.fs Me.bs R1.fs.length } { (M.later ms).overs draw nd with log := l } := by
        have := (hRW.logged l).looked
        rw [e4]
        exact this
      have hall := looked_all hlenE
      have HRW2 := hide hRW2
      have Hby := hide hby
      have Hall := hide hall
      have HhA := hide hA
      have HhS := hide hS
      have HInvE := hide hInvE
      have HLinvE := hide hLinvE
      have HidsE := hide hidsE
      have HcE := hide hcE
      have Hsn1 : Hid (∀ f ∈ (looked R1.fs Me.bs R1.fs.length), 0 ≤ f.sn ∧ f.sn ≤ 4 * (t : Int)) := fun f hf => by
        have hm : f.sn ∈ (looked R1.fs Me.bs R1.fs.length).map Fa.sn := List.mem_map_of_mem hf
        rw [hall.2.2, hsn] at hm
        obtain ⟨f0, h0', e0⟩ := List.mem_map.1 hm
        rw [← e0]
        exact HK.out.sn f0 h0'
      have Htn := hide htn
      have HDE : Hid (Me.D = DT (madeT zs N) ∧ Me.ns = kn.take N) := by
        obtain ⟨q1, q2⟩ := overs_dn (M.later ms) draw nd
        exact ⟨e2.trans (q1.trans HK.out.D), e3.trans (q2.trans HK.out.ns)⟩
      have Hlen2 : Hid ((looked R1.fs Me.bs R1.fs.length).length = R.fs.length) := by rw [looked_len]; exact hlen1
      have c13 : ∃ wa wk, wr.cell? ⟨gr, 13, none⟩ = some (.slice wa nd wk) := by
        obtain ⟨fv', wv', q⟩ := hR
        obtain ⟨wa, wk, rfl, _⟩ := q.wy.shape
        exact ⟨wa, wk, by have := q.blk.1.cell 13; rw [hwl] at this; exact this⟩
      obtain ⟨wa, wk, c13⟩ := c13
      clear hov hRW hRW2 hby hall hA hS hR hInvE hLinvE hidsE hcE hgoE hgo hfb hsn htn hfb' HOv hwl htm
      go_wp2_with fail
      refine HLk.out.mono ?_
      rintro e w5 ⟨rfl, hR5, hS5⟩
      have HR5 := hide hR5
      have HS5 := hide hS5
      clear hR5 hS5 c13 HLk
      go_wp2_with fail
      have hSlen : S.length ≤ 4 := by omega
      go_loopw [10] (fun i wr => ∃ (j : Nat) (Rj : Rn) (Mj : Ag), j ≤ S.length ∧ i = .int .i64 j ∧ SentBy Mj (S.drop j) Me ∧ RW Rj Mj ∧ RunAt wr L2 gr g cm (madeC zs) Rj ∧ AgentAt wr L2 1 g Me ∧ Step (ofP 0) L2 w2 L2 wr ∧ Rj.fs.map Fa.b = Me.bs ∧ Rj.n = R.n ∧ Rj.fs.length = R.fs.length ∧ (∀ f ∈ Rj.fs, 0 ≤ f.sn ∧ f.sn ≤ 4 * (t : Int) + j) ∧ ∀ (d : Nat) (o : Out), Mj.os[d]? = some o → 0 ≤ o.sends) (fun i _ => S.length - (intOf i).toNat)
      case atStart =>
        refine ⟨0, _, _, Nat.zero_le _, rfl, by rw [List.drop_zero]; exact Hby.out, HRW2.out, HR5.out, HhA.out.keep HS5.out (fun q => not_ofP (by decide) q), HhS.out.trans HS5.out, Hall.out.1, Htn.out.2, Hlen2.out, fun f hf => ?_, HPos.out⟩
        have := Hsn1.out f hf
        omega
      case round =>
        clear HPos Hby HRW2 HR5 HhA HhS HS5 Hall Htn Hlen2 Hsn1
        obtain ⟨j, Rj, Mj, hj, rfl, hsb, hrwj, hRj, hAj, hSj, hbj, hnj, hlj, hsj, hpj⟩ := hrel
        by_cases hjl : j < S.length
        · have hjI : (j : Int) < (S.length : Int) := by omega
          obtain ⟨sd, hsd⟩ : ∃ sd, S[j]? = some sd := ⟨_, List.getElem?_eq_getElem hjl⟩
          have hdrop : S.drop j = sd :: S.drop (j + 1) := by
            rw [List.drop_eq_getElem_cons hjl]
            congr 1
            exact (List.getElem?_eq_some_iff.1 hsd).2
          rw [hdrop] at hsb
          have hrow := HRow.out.keep hSj (fun ⟨q, e⟩ => by cases e)
          obtain ⟨gs, rfl, _, _, hcs, _⟩ := hrow.head (by omega)
          have HRg : Hid (wr.rangeAt gs (j * 4) sd.cells) := fun i v hv => hcs _ _ (flat_cell Sd.cells 4 (fun _ => rfl) hsd (by have := (List.getElem?_eq_some_iff.1 hv).1; exact this) hv)
          have hsame := hsb.same
          obtain ⟨_, _, _, es4, _, es6, _, _, es9⟩ := hsame
          obtain ⟨d, p, o, o', b, r, g1, g2, g3, g4, g5, g6, g7, g8, g9, g10, g11, g12, g13, g14, hrest⟩ := hsb.uncons
          obtain ⟨y, hy⟩ : ∃ y, Rj.ws[d]? = some y := ⟨_, List.getElem?_eq_getElem (by rw [hrwj.wl]; exact (List.getElem?_eq_some_iff.1 g2).1)⟩
          obtain ⟨f, hf⟩ : ∃ f, Rj.fs[p]? = some f := ⟨_, List.getElem?_eq_getElem (by rw [hrwj.len]; exact (List.getElem?_eq_some_iff.1 g5).1)⟩
          have hfb2 : f.b = b := by
            have q1 := map_at hbj hf
            rw [es4, g5] at q1
            exact (Option.some.inj q1).symm
          obtain ⟨yw1, yw2, _⟩ := hrwj.ws d y o hy g2
          have hno : ∀ i f', i < p → Rj.fs[i]? = some f' → f'.b.id ≠ sd.id := fun i f' hi hf' e => by
            have q1 := map_at hbj hf'
            have q2 := HidsE.out i _ q1
            have q3 : b.id = kid p := by rw [← es4] at g5; exact HidsE.out p b g5
            rw [q2, g8, q3] at e
            have hpl := (List.getElem?_eq_some_iff.1 hf).1
            have := kid_inj (by omega) (by omega) e
            omega
          have hoE := HInvE.out
          have hsnb := hsj f (List.mem_of_getElem? hf)
          have htrb : 0 ≤ y.tr ∧ y.tr ≤ 1000000000000000 := by
            rw [yw2]
            have hb := sends_bound hrest HInvE.out g2 g13
            have hb2 := hpj d o g2
            omega
          have HW := hide (kwent_any L2 gr g cm (madeC zs) Rj sd d p y f wr hRj (by omega) g1 hy hf (by rw [hfb2]; exact g8.symm) hno (by rw [yw1]; exact g3) (by rw [g4, yw2]) (by rw [hfb2]; exact g9.symm) (by rw [hfb2]; exact g7) (by rw [hfb2]; exact g6) (by have := hrwj.af p f r b hf g10 g5 g6; rw [hrwj.time]; omega) htrb (by omega))
          have HRW3 := hide (hrwj.sent (s := sd) g2 hy hf g4 g12 g13 g14)
          have Hrest := hide hrest
          have Hbj3 : Hid ((Rj.fs.set p { f with sn := f.sn + 1 }).map Fa.b = Me.bs) := by
            show _ = _
            rw [List.map_set, ← hbj]
            apply List.ext_getElem?
            intro i
            by_cases e : p = i
            · subst e
              rw [List.getElem?_set_self (by rw [List.length_map]; exact (List.getElem?_eq_some_iff.1 hf).1), List.getElem?_map, hf]
              rfl
            · rw [List.getElem?_set_ne e]
          have Hsj3 : Hid (∀ x ∈ (Rj.fs.set p { f with sn := f.sn + 1 }), 0 ≤ x.sn ∧ x.sn ≤ 4 * (t : Int) + (j + 1 : Nat)) := fun x hx => by
            rcases List.mem_or_eq_of_mem_set hx with hx | rfl
            · have := hsj x hx
              omega
            · show 0 ≤ f.sn + 1 ∧ f.sn + 1 ≤ _
              omega
          have Hpj3 : Hid (∀ (d1 : Nat) (o1 : Out), ({ Mj with os := Mj.os.set d o' } : Ag).os[d1]? = some o1 → 0 ≤ o1.sends) := fun d1 o1 h' => by
            have h2' : (Mj.os.set d o')[d1]? = some o1 := h'
            have hb2 := hpj d o g2
            by_cases e : d = d1
            · subst e
              rw [List.getElem?_set_self (List.getElem?_eq_some_iff.1 g2).1] at h2'
              cases h2'
              omega
            · rw [List.getElem?_set_ne e] at h2'
              exact hpj d1 o1 h2'
          have Hnj := hide hnj
          have Hlj := hide hlj
          have HAj := hide hAj
          have HSj := hide hSj
          clear hsb hrwj hRj hAj hSj hbj hnj hlj hsj hpj hdrop hrow hcs hsd hrest g1 g2 g3 g4 g5 g6 g7 g8 g9 g10 g11 g12 g13 g14 hy hf hfb2 yw1 yw2 hno hsnb htrb hoE es4 es6 es9
          go_wp2_with (first
            | (refine wpList_load_mid rfl 111 _ rfl gs (j * 4) rfl [.int .i64 sd.d, .int .i64 sd.try', encStr sd.id, encStr sd.body] _ HRg.out Tryz.underlying111 rfl infoSend1 ?_)
            | fail)
          refine HW.out.mono ?_
          rintro e w6 ⟨rfl, hR6, hS6⟩
          have HR6 := hide hR6
          have HS6 := hide hS6
          clear hR6 hS6
          go_wp2_with fail
          go_roundw
          case rel => exact ⟨j + 1, _, _, by omega, by go_num, Hrest.out, HRW3.out, HR6.out, HAj.out.keep HS6.out (fun q => not_ofP (by decide) q), HSj.out.trans HS6.out, Hbj3.out, Hnj.out, by simp only [List.length_set]; exact Hlj.out, Hsj3.out, Hpj3.out⟩
          case measure => simp [intOf]; omega
        · obtain rfl : S.length = j := by omega
          have hjI : ¬ ((S.length : Int) < (S.length : Int)) := by omega
          rw [List.drop_length] at hsb
          have hMe : Mj = Me := hsb.nil_eq
          subst hMe
          have Hrwj := hide hrwj
          have HRj := hide hRj
          have HAj := hide hAj
          have HSj := hide hSj
          have Hbj := hide hbj
          have Hnj := hide hnj
          have Hlj := hide hlj
          have Hsj := hide hsj
          clear hsb hrwj hRj hAj hSj hbj hnj hlj hsj hpj
          go_wp2_with fail
          go_ret
          rw [Hte.out]
          obtain ⟨q1, q2, q3⟩ := HK.out.base ((step_r0 (step0 HS1.out)).trans ((step_r1 HS2.out).trans (step_r0 HSj.out)))
          refine ⟨_, Rj, L2, rfl, HRow.out.keep HSj.out (fun ⟨q, e⟩ => by cases e), ⟨HRj.out, HAj.out, q1, q2, q3, Hrwj.out, Hbj.out, HidsE.out, ?_, ?_, HInvE.out, HLinvE.out, HcE.out, HDE.out.1, HDE.out.2, fun f hf => ?_, HLg.out⟩, Hnj.out⟩
          · rw [Hnj.out, Hlj.out]; exact HK.out.n
          · rw [Hnj.out]; exact HK.out.n100
          · have := Hsj.out f hf
            omega
end Go.Proofs.YtojpjaifhjigfabGreatDoor

/- conduitkeep's run: reply. -/
namespace Go.Proofs.YtojpjaifhjigfabGreatDoor
open Go.RowKit Go.Maps

theorem err_same (A : Nat → Addr) (i : Nat) (w : World) : (binOp .eql 40 (ev A i) (ev A i)).run Tryz.prog w = .ok (.bool true) w := by
  obtain ⟨i1, hi1, hcmp⟩ := Option.map_eq_some_iff.1 comp121
  obtain ⟨j1, hj1, _⟩ := Option.map_eq_some_iff.1 size142
  exact run_eql_iface_ptr_same w (A i) Tryz.underlying40 Tryz.underlying197 hi1 hcmp hj1

/-- Nothing is under way: the reply is stale, and nothing turns. -/
theorem RK.same {w wr w' : World} {L : Labs} {gr g cm : Nat} {zs : List Int} {N : Nat} {R : Rn} {M : Ag} {t : Nat} (h : RK w wr L gr g cm zs N R M t) (hR : RunAt w' L gr g cm (madeC zs) R) (hA : AgentAt w' L 1 g M) (s : Step ofR L wr L w') : RK w w' L gr g cm zs N R M t := by
  obtain ⟨q1, q2, q3⟩ := h.base s
  exact ⟨hR, hA, q1, q2, q3, h.rw', h.bs, h.ids, h.n, h.n100, h.inv, h.linv, h.c, h.D, h.ns, h.sn, h.lg⟩
set_option maxRecDepth 100000 in
set_option maxHeartbeats 4000000 in
theorem rreply_stale (A : Nat → Addr) (w wr : World) (L : Labs) (gr g cm : Nat) (zs : List Int) (N : Nat) (R : Rn) (M : Ag) (t d : Nat) (o : Out) (good : Bool) (draw : Int) (hS : Sents.Holds w 197 gl 11 A) (hK : RK w wr L gr g cm zs N R M t) (hd : 0 ≤ draw) (ho : M.os[d]? = some o) (hw : o.way = -1) :
    Calls Tryz.prog 26 #[.pointer (some ⟨gr, 0, none⟩), .int .i64 d, .bool good, .int .i64 draw] wr fun e w' => e = .returned (.tuple #[]) ∧ RK w w' L gr g cm zs N R M t := by
  have hdl := (List.getElem?_eq_some_iff.1 ho).1
  obtain ⟨y, hy⟩ : ∃ y, R.ws[d]? = some y := ⟨_, List.getElem?_eq_getElem (by rw [hK.rw'.wl]; exact hdl)⟩
  obtain ⟨y1, y2, _⟩ := hK.rw'.ws d y o hy ho
  obtain ⟨fv, wv, hP⟩ := hK.at'
  obtain ⟨gw, wk, rfl, _, hcw, _⟩ := hP.way hy
  have hwl : R.ws.length = M.os.length := hK.rw'.wl
  have hdI : (d : Int) < (R.ws.length : Int) := by omega
  have hdest : destB M d = true := by
    have := hK.inv.ol
    simp [destB]
    omega
  have c13 : wr.cell? ⟨gr, 13, none⟩ = some (.slice (some ⟨gw, 0, none⟩) R.ws.length wk) := hP.blk.1.cell 13
  have z0 : wr.cell? ⟨gw, d * 3, none⟩ = some (.int .i64 (-1)) := by rw [← hw, ← y1]; exact hcw 0 _ rfl
  have z1 : wr.cell? ⟨gw, d * 3 + 1, none⟩ = some (.int .i64 y.tr) := hcw 1 _ rfl
  have z2 : wr.cell? ⟨gw, d * 3 + 2, none⟩ = some (.int .i64 y.bg) := hcw 2 _ rfl
  have HRp : Hid (∀ W, Below wr.heap.size wr W → Calls Tryz.prog 52 #[.pointer (some ⟨g, 0, none⟩), .int .i64 d, .int .i64 y.tr, .bool good, .int .i64 draw] W fun e w' => e = .returned (ev A 10) ∧ Below W.heap.size W w') := fun W hW =>
    reply_stale A L 1 g d M o y.tr good draw W (hS.below (hK.b.trans (hW.mono hK.b.size))) (hK.ag.keep (Step.of_below (p := fun _ => False) hW) (fun _ h => h)) hdest hd ho (by simp [hw])
  have HKk := hide hK
  have HP := hide hP
  have HS := hide hS
  have heq := fun w => err_same A 10 w
  clear hcw hK hP hS ho hy y1 y2 hw hdest
  go_enter Tryz.func26, Tryz.ntmps26
  go_wp2_with fail
  generalize hW1 : World.alloc wr _ = W1
  have hb1 : Below wr.heap.size wr W1 := by rw [← hW1]; exact (Below.refl _ _).alloc (Nat.le_refl _) _
  have hB1 : Blk W1 wr.heap.size #[.int .i64 (-1), .int .i64 y.tr, .int .i64 y.bg] 75 := by rw [← hW1]; exact Blk.new wr _ _
  have k0 : W1.cell? ⟨gr, 0, none⟩ = some (.pointer (some ⟨g, 0, none⟩)) := (HP.out.blk.1.below hb1 HP.out.blk.1.lt).cell 0
  have m1 : W1.cell? ⟨wr.heap.size, 1, none⟩ = some (.int .i64 y.tr) := hB1.cell 1
  have HB1 := hide hB1
  have Hb1 := hide hb1
  clear hW1 hb1 hB1 z0 z1 z2 c13
  have hszW : gr < W1.heap.size := Nat.lt_of_lt_of_le HP.out.blk.1.lt Hb1.out.size
  have hszW2 : wr.heap.size < W1.heap.size := HB1.out.lt
  have HKeep : Hid (∀ W, Below W1.heap.size W1 W → W.cell? ⟨gr, 0, none⟩ = some (.pointer (some ⟨g, 0, none⟩)) ∧ W.cell? ⟨wr.heap.size, 1, none⟩ = some (.int .i64 y.tr)) := fun W hW => ⟨(hW.cell (p := ⟨gr, 0, none⟩) hszW).trans k0, (hW.cell (p := ⟨wr.heap.size, 1, none⟩) hszW2).trans m1⟩
  go_cut [9] (fun s9 wx => s9 = ev A 10 ∧ Below W1.heap.size W1 wx)
  case first =>
    go_region_held3 (fun w' => w'.cell? ⟨gr, 0, none⟩ = some (.pointer (some ⟨g, 0, none⟩)) ∧ w'.cell? ⟨wr.heap.size, 1, none⟩ = some (.int .i64 y.tr)) (go_keep)
      (first | (go_at_call 52; refine (HRp.out _ (by first | exact Hb1.out | exact Hb1.out.drew)).mono ?_; rintro e w2 ⟨rfl, hb2⟩; have HB2 : Hid (Below W1.heap.size W1 w2) := (by first | exact hb2 | exact ((Below.refl W1.heap.size W1).drew).trans hb2); have f1 := (HKeep.out w2 HB2.out).1; have f2 := (HKeep.out w2 HB2.out).2; clear hb2))
    all_goals
      go_wp2_with fail
      go_meet
      exact ⟨rfl, HB2.out⟩
  case rest =>
    obtain ⟨rfl, hB2⟩ := hcut
    have hP2 := HP.out.keep (Step.of_below (p := fun _ => False) (Hb1.out.trans (hB2.mono Hb1.out.size))) (fun _ h => h)
    have n0 : wc.cell? ⟨wr.heap.size, 0, none⟩ = some (.int .i64 (-1)) := (hB2.cell (p := ⟨wr.heap.size, 0, none⟩) hszW2).trans (HB1.out.cell 0)
    have d16 : wc.cell? ⟨gr, 16, none⟩ = some (.bool true) := hP2.blk.1.cell 16
    have f16 : wc.frozen? ⟨gr, 16, none⟩ = false := hP2.blk.1.frozen 16
    have hE := ((HS.out.below (HKk.out.b.trans ((Hb1.out.trans (hB2.mono Hb1.out.size)).mono HKk.out.b.size))).cell 10 (by decide))
    simp only [gl, List.getD_cons_zero, List.getD_cons_succ] at hE
    obtain ⟨hP3, hS3⟩ := hP2.setOk
    have HP3 := hide hP3
    have HS3 : Hid (Step ofR L wr L (wc.setCell ⟨gr, 16, none⟩ (.bool true))) := ((Step.of_below (Hb1.out.trans (hB2.mono Hb1.out.size))).trans (step_r0 (step0 hS3)))
    have HA3 : Hid (AgentAt (wc.setCell ⟨gr, 16, none⟩ (.bool true)) L 1 g M) := (HKk.out.ag.keep (Step.of_below (p := fun _ => False) (Hb1.out.trans (hB2.mono Hb1.out.size))) (fun _ h => h)).keep hS3 (fun q e => by cases e)
    clear hP2 hB2 hP3 hS3 k0 m1
    go_wp2_with fail
    first | go_end0 | refine bodyPost_ret (results_none rfl _ _ _) rfl ?_
    exact ⟨rfl, HKk.out.same ⟨_, _, HP3.out⟩ HA3.out HS3.out⟩
end Go.Proofs.YtojpjaifhjigfabGreatDoor

/- conduitkeep's run: reply to what is under way. -/
namespace Go.Proofs.YtojpjaifhjigfabGreatDoor
open Go.RowKit Go.Maps

/-- The same with no label behind the heap's end. -/
theorem RK.clip {w wr : World} {L : Labs} {gr g cm : Nat} {zs : List Int} {N : Nat} {R : Rn} {M : Ag} {t : Nat} (h : RK w wr L gr g cm zs N R M t) : RK w wr (clip L wr.heap.size) gr g cm zs N R M t := by
  have s : Step (fun _ => False) L wr (Go.Proofs.YtojpjaifhjigfabGreatDoor.clip L wr.heap.size) wr := Step.clipped L wr
  obtain ⟨q1, q2, q3⟩ := h.base (s.mono (fun _ h => h.elim))
  exact ⟨h.at'.keep s (fun _ h => h), h.ag.keep s (fun _ h => h), q1, q2, q3, h.rw', h.bs, h.ids, h.n, h.n100, h.inv, h.linv, h.c, h.D, h.ns, h.sn, h.lg⟩
/-- What the harness's run is behind a reply. -/
def Rn.replied (R : Rn) (M' : Ag) (ba : Int) (d : Nat) (good : Bool) : Rn := { R.over ba d good with fs := looked (R.over ba d good).fs M'.bs (R.over ba d good).fs.length }
structure RepOk (zs : List Int) (N : Nat) (R : Rn) (M M' : Ag) (t d p : Nat) (good : Bool) : Prop where
  len : M'.bs.length = (R.over (madeC zs).ba d good).fs.length
  goes : ∀ (i : Nat) (f : Fa) (b : Bat), (R.over (madeC zs).ba d good).fs[i]? = some f → M'.bs[i]? = some b → Goes (madeC zs).at' f.b b
  ids : ∀ (i : Nat) b, M'.bs[i]? = some b → b.id = kid i
  rw' : RW (R.replied M' (madeC zs).ba d good) M'
  bs : (R.replied M' (madeC zs).ba d good).fs.map Fa.b = M'.bs
  n : (R.replied M' (madeC zs).ba d good).n = R.n ∧ (R.replied M' (madeC zs).ba d good).fs.length = R.fs.length
  inv : Inv M' (t + 1)
  linv : LInv M'
  same : M'.c = M.c ∧ M'.D = M.D ∧ M'.ns = M.ns
  sn : (R.replied M' (madeC zs).ba d good).fs.map Fa.sn = R.fs.map Fa.sn
  lg : M'.log.length ≤ M.log.length + 6
  fact : ∃ f', (R.replied M' (madeC zs).ba d good).fs[p]? = some f' ∧ ((good = true ∧ f'.b.st = 2) ∨ (good = false ∧ (f'.b.st = 1 ∨ f'.b.st = 3)))
theorem RK.repOk {w wr : World} {L : Labs} {gr g cm : Nat} {zs : List Int} {N : Nat} {R : Rn} {M : Ag} {t d : Nat} {o : Out} (hK : RK w wr L gr g cm zs N R M t) (ht : t + 1 ≤ 4000000000000) {draw : Int} (hd : 0 ≤ draw) (ho : M.os[d]? = some o) (hw : o.way ≠ -1) (good : Bool) : ∃ (p : Nat) (f : Fa), o.way = p ∧ R.fs[p]? = some f ∧ RepOk zs N R M (M.replied d good draw) t d p good := by
  obtain ⟨p, b, r, hs, h1, h2, h3⟩ := hK.inv.setOk (by omega) hd ho hw
  obtain ⟨k, _, hk0, ff, er⟩ := replied_eq hs good
  obtain ⟨f, hf⟩ : ∃ f, R.fs[p]? = some f := ⟨_, List.getElem?_eq_getElem (by rw [hK.rw'.len]; exact (List.getElem?_eq_some_iff.1 hs.hb).1)⟩
  refine ⟨p, f, hs.way, hf, ?_⟩
  have hinv := hK.inv.replied (by omega) hd ho hw good
  have hlinv := hK.linv.replied hK.inv (by omega) hd ho hw good
  obtain ⟨l1, l2, l3⟩ := over_bs_len hs good
  obtain ⟨v1, v2, v3, v4, _⟩ := over_fb R (madeC zs).ba d good
  have hrw := hK.rw'.over hs good
  rw [hK.c] at hrw
  have ebs : (M.replied d good draw).bs = (M.over d good draw).bs := by rw [er]
  have hlen : (M.replied d good draw).bs.length = (R.over (madeC zs).ba d good).fs.length := by rw [ebs]; exact hrw.len.symm
  have hlR : (R.over (madeC zs).ba d good).fs.length = R.fs.length := by have := congrArg List.length v1; simpa using this
  have hgo : ∀ (i : Nat) (x x' : Bat), M.bs[i]? = some x → (M.replied d good draw).bs[i]? = some x' → Goes (madeC zs).at' x x' := fun i x x' hx hx' => by
    rw [ebs] at hx'
    rw [← hK.c]
    exact over_goes hK.inv hs h1 h3 good hx hx'
  have hall := looked_all hlen
  obtain ⟨e1, e2⟩ := over_dn M d good draw
  refine ⟨hlen, fun i f b hf hb => ?_, fun i b hb => ?_, ?_, hall.1, ⟨v4, ?_⟩, hinv, hlinv, ⟨by rw [er]; exact l2, by rw [er]; exact e1, by rw [er]; exact e2⟩, hall.2.2.trans v2, ?_, ?_⟩
  · exact hgo i f.b b (map_at (v1.trans hK.bs) hf) hb
  · have hil : i < M.bs.length := by have := (List.getElem?_eq_some_iff.1 hb).1; rw [ebs, l1] at this; exact this
    obtain ⟨x, hx⟩ : ∃ x, M.bs[i]? = some x := ⟨_, List.getElem?_eq_getElem hil⟩
    rw [(hgo i x b hx hb).same.2.2.1]
    exact hK.ids i x hx
  · have := (hrw.logged (M.log ++ recB 43 [Ev.of k p ff])).looked
    rw [← er] at this
    unfold Rn.replied
    rw [ebs]
    exact this
  · unfold Rn.replied
    show (looked _ _ _).length = _
    rw [looked_len]
    exact hlR
  · have hl := recB_le (es := [Ev.of k p ff]) (fun e he => by obtain rfl := List.mem_singleton.1 he; exact hk0)
    rw [er]
    show (M.log ++ recB 43 [Ev.of k p ff]).length ≤ _
    rw [List.length_append]
    simp only [List.length_singleton] at hl
    omega
  · have hpl := (List.getElem?_eq_some_iff.1 hs.hb).1
    have hpR : p < (R.over (madeC zs).ba d good).fs.length := by rw [hlR, hK.rw'.len]; exact hpl
    obtain ⟨f1, hf1⟩ : ∃ f1, (R.over (madeC zs).ba d good).fs[p]? = some f1 := ⟨_, List.getElem?_eq_getElem hpR⟩
    have hb' : (M.replied d good draw).bs[p]? = some (if good then b.ended 1 0 else if M.c.at' ≤ b.fl + 1 then b.ended 3 1 else b.ended 2 1) := by
      rw [ebs, over_eq hs good]
      exact List.getElem?_set_self hpl
    refine ⟨_, looked_at hf1 hb', ?_⟩
    rw [if_pos hpR]
    cases good
    · refine Or.inr ⟨rfl, ?_⟩
      simp only [Bool.false_eq_true, if_false]
      split
      · exact Or.inr rfl
      · exact Or.inl (by simpa [Bat.ended] using h1)
    · exact Or.inl ⟨rfl, rfl⟩
theorem RepOk.rk {w wr w' : World} {L L' : Labs} {gr g cm : Nat} {zs : List Int} {N : Nat} {R : Rn} {M M' : Ag} {t d p : Nat} {good : Bool} (h : RepOk zs N R M M' t d p good) (hK : RK w wr L gr g cm zs N R M t) (hR : RunAt w' L' gr g cm (madeC zs) (R.replied M' (madeC zs).ba d good)) (hA : AgentAt w' L' 1 g M') (s : Step ofR L wr L' w') : RK w w' L' gr g cm zs N (R.replied M' (madeC zs).ba d good) M' (t + 1) := by
  obtain ⟨q1, q2, q3⟩ := hK.base s
  refine ⟨hR, hA, q1, q2, q3, h.rw', h.bs, h.ids, ?_, ?_, h.inv, h.linv, h.same.1.trans hK.c, h.same.2.1.trans hK.D, h.same.2.2.trans hK.ns, fun f hf => ?_, ?_⟩
  · rw [h.n.1, h.n.2]; exact hK.n
  · rw [h.n.1]; exact hK.n100
  · have hm : f.sn ∈ (R.replied M' (madeC zs).ba d good).fs.map Fa.sn := List.mem_map_of_mem hf
    rw [h.sn] at hm
    obtain ⟨f0, h0', e0⟩ := List.mem_map.1 hm
    have := hK.sn f0 h0'
    omega
  · have h1 := hK.lg
    have h2 := h.lg
    have h3 := h.rw'.len
    have h4 := hK.rw'.len
    rw [h.n.2] at h3
    omega
end Go.Proofs.YtojpjaifhjigfabGreatDoor
