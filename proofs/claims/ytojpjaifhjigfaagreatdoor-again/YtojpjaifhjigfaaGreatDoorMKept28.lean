/- Steps of the proof (several texts in one): RunBegin, RunBegin2, RunPlayed, RunReply4. -/
import Derived.Test.YtojpjaifhjigfaaGreatDoorMKept27
import Derived.Test.YtojpjaifhjigfaaGreatDoorMKept20
import Derived.Test.YtojpjaifhjigfaaGreatDoorMKept25

/- conduitkeep's run: how it begins, as plain data. -/
namespace Go.Proofs.YtojpjaifhjigfaaGreatDoor
open Go.RowKit Go.Maps

def Rn.new (dn : Nat) : Rn := ⟨[], List.replicate dn ⟨-1, 0, 0⟩, 0, 0⟩
theorem RK.start {w wr : World} {L : Labs} {gr g cm : Nat} {zs : List Int} {N n dn : Nat} (hN : N = 1 + pickN (zs.getD 9 0) 4) (hdn : (madeC zs).d = dn) (hM : OM wr cm n (DT (madeT zs N))) {ns : List (List UInt8)} (hp : ns.Perm (strKeys (DT (madeT zs N)))) (hns : ns = kn.take N) (hR : RunAt wr L gr g cm (madeC zs) (Rn.new dn)) (hA : AgentAt wr L 1 g (Ag.new (madeC zs) (DT (madeT zs N)) ns)) (hB : RB w wr L cm zs N) : RK w wr L gr g cm zs N (Rn.new dn) (Ag.new (madeC zs) (DT (madeT zs N)) ns) 0 := by
  have hg := made_good zs
  rw [← hN] at hg
  refine ⟨hR, hA, hB.cm, hB.lo, hB.b, ⟨rfl, ?_, fun d y o hy ho => ?_, fun i f r b hf => (by cases hf), rfl, fun i f b hf => (by cases hf)⟩, rfl, fun i b hb => (by cases hb), rfl, Nat.zero_le _, inv_new hM hg hp, linv_new _ _ _ (by show (0 : Int) ≤ 100; omega), rfl, rfl, hns, fun f hf => (by cases hf), Nat.zero_le _⟩
  · show (List.replicate dn _).length = (List.replicate (madeC zs).d.toNat _).length
    rw [List.length_replicate, List.length_replicate, hdn]
    rfl
  · have e1 := (List.mem_replicate.1 (List.mem_of_getElem? hy)).2
    have e2 := (List.mem_replicate.1 (List.mem_of_getElem? ho)).2
    rw [e1, e2]
    exact ⟨rfl, rfl, fun hh => absurd rfl hh⟩
/-- The first batch goes out at once, and alone. -/
structure FirstGo (M : Ag) : Prop where
  one : (M.ticked 0 0).2.length = 1
  way : ∃ o, (M.ticked 0 0).1.os[0]? = some o ∧ o.way ≠ -1
theorem sentTo_goes {M : Ag} {d : Nat} {o : Out} (ho : M.os[d]? = some o) (hw : o.way = -1) (ht : o.trip = true → o.unt ≤ M.now) (hs : (M.sizes d).all (· == 0) = false) : (M.sentTo d).2.length = 1 ∧ ∃ o' : Out, (M.sentTo d).1.os[d]? = some o' ∧ o'.way ≠ -1 := by
  unfold Ag.sentTo
  rw [ho]
  simp only
  rw [if_neg (by
    rintro (h | ⟨h1, h2⟩ | h)
    · exact h hw
    · have := ht h1; omega
    · rw [hs] at h; cases h)]
  refine ⟨rfl, _, List.getElem?_set_self (List.getElem?_eq_some_iff.1 ho).1, ?_⟩
  show ((_ : Nat) : Int) ≠ -1
  omega
theorem sentTo_rests {M : Ag} {d : Nat} (hs : (M.sizes d).all (· == 0) = true) : (M.sentTo d).2 = [] := by
  unfold Ag.sentTo
  cases M.os[d]? with
  | none => rfl
  | some o => simp only; rw [if_pos (Or.inr (Or.inr hs))]
theorem first_go {zs : List Int} {N n dn cm : Nat} {wr : World} (hN : N = 1 + pickN (zs.getD 9 0) 4) (hdn : (madeC zs).d = dn) (hd1 : 1 ≤ dn) (hM : OM wr cm n (DT (madeT zs N))) {ns : List (List UInt8)} (hns : ns = kn.take N) (href : (Ag.new (madeC zs) (DT (madeT zs N)) ns).refusal (rbat 0 0 0 5) = 0) : FirstGo ((Ag.new (madeC zs) (DT (madeT zs N)) ns).submitted (rbat 0 0 0 5)) := by
  have h9 := pickN_lt (zs.getD 9 0) (n := 4) (by omega)
  have e : (Ag.new (madeC zs) (DT (madeT zs N)) ns).submitted (rbat 0 0 0 5) = (Ag.new (madeC zs) (DT (madeT zs N)) ns).taken (rbat 0 0 0 5) := by unfold Ag.submitted; rw [if_pos href]
  rw [e]
  obtain ⟨X, hX⟩ : ∃ X, ((Ag.new (madeC zs) (DT (madeT zs N)) ns).taken (rbat 0 0 0 5)).later 0 = X := ⟨_, rfl⟩
  have hos : X.os = List.replicate dn { res := 0, fl := 0, trip := false, unt := 0, turn := 0, cr := List.replicate ns.length 0, sends := 0, way := -1, began := 0 } := by
    rw [← hX]
    show List.replicate (madeC zs).d.toNat _ = _
    rw [hdn]
    rfl
  have hbs : X.bs = [rbat 0 0 0 5] := by rw [← hX]; rfl
  have hrt : X.rt = [⟨0, (madeC zs).ba⟩] := by rw [← hX]; rfl
  have hnow : X.now = 0 := by rw [← hX]; rfl
  have hXn : X.ns = ns := by rw [← hX]; rfl
  have ht : ((Ag.new (madeC zs) (DT (madeT zs N)) ns).taken (rbat 0 0 0 5)).ticked 0 0 = X.sentOut dn := by
    unfold Ag.ticked
    rw [hX, timed_idle (M := X) (fun d o ho => by rw [hos] at ho; rw [(List.mem_replicate.1 (List.mem_of_getElem? ho)).2]) 0]
    congr 1
    rw [hos, List.length_replicate]
  have ho0 : X.os[0]? = some { res := 0, fl := 0, trip := false, unt := 0, turn := 0, cr := List.replicate ns.length 0, sends := 0, way := -1, began := 0 } := by
    rw [hos, List.getElem?_replicate, if_pos (by omega)]
  obtain ⟨g1, o', g2, g3⟩ := sentTo_goes ho0 rfl (fun h => by cases h) (sizes_some (M := X) (d := 0) (b := rbat 0 0 0 5) (by rw [hbs]; simp) rfl rfl (by
      rw [hXn, hns]
      show kn.getD 0 [] ∈ kn.take N
      obtain ⟨m, rfl⟩ : ∃ m, N = m + 1 := ⟨N - 1, by omega⟩
      simp [kn]) (fun r hr => by rw [hrt] at hr; rw [List.mem_singleton.1 hr, hnow]; exact Int.le_refl _) (by omega))
  have hlen : ∀ k, (X.sentOut (k + 1)).2.length = 1 := fun k => by
    induction k with
    | zero => rw [sentOut_succ2]; show ([] ++ (X.sentTo 0).2).length = 1; rw [List.nil_append]; exact g1
    | succ k ih =>
      rw [sentOut_succ2, sentTo_rests (sizes_none (fun b hb _ => by rw [hbs] at hb; rw [List.mem_singleton.1 hb]; show (0 : Int) ≠ ((k + 1 : Nat) : Int); omega)), List.append_nil]
      exact ih
  refine ⟨?_, ?_⟩
  · rw [ht]
    obtain ⟨m, rfl⟩ : ∃ m, dn = m + 1 := ⟨dn - 1, by omega⟩
    exact hlen m
  · rw [ht, sentOut_at X dn 0 (by omega)]
    exact ⟨o', g2, g3⟩
/-- And is acked. -/
theorem RK.acked {w wr : World} {L : Labs} {gr g cm : Nat} {zs : List Int} {N : Nat} {R : Rn} {M : Ag} {t d : Nat} {o : Out} (hK : RK w wr L gr g cm zs N R M t) (ht : t + 1 ≤ 4000000000000) {draw : Int} (hd : 0 ≤ draw) (ho : M.os[d]? = some o) (hw : o.way ≠ -1) : ∃ (p : Nat) (b : Bat), o.way = p ∧ p < R.fs.length ∧ (M.replied d true draw).bs[p]? = some b ∧ b.st = 2 := by
  obtain ⟨p, f, h1, h2, h3⟩ := hK.repOk ht hd ho hw true
  obtain ⟨f', q1, q2⟩ := h3.fact
  refine ⟨p, f'.b, h1, (List.getElem?_eq_some_iff.1 h2).1, map_at h3.bs q1, ?_⟩
  rcases q2 with ⟨_, e⟩ | ⟨e, _⟩
  · exact e
  · cases e
end Go.Proofs.YtojpjaifhjigfaaGreatDoor

/- conduitkeep's run: how it begins, the walk. -/
namespace Go.Proofs.YtojpjaifhjigfaaGreatDoor
open Go.RowKit Go.Maps
attribute [local go_sem] run_store_float

theorem ropen0 (zs : List Int) (b n N : Nat) (hN : N = 1 + pickN (zs.getD 9 0) 4) (W : World) (hn : n ≤ 4) (hM : OM W b n (DT (madeT zs N))) :
    Calls Tryz.prog 26 #[(madeC zs).val (some b), .string ⟨#[]⟩] W fun e w' => ∃ g L ns, e = .returned (.tuple #[.pointer (some ⟨g, 0, none⟩), .nilIface]) ∧ ns.Perm (strKeys (DT (madeT zs N))) ∧ ns = kn.take N ∧ AgentAt w' L 1 g (Ag.new (madeC zs) (DT (madeT zs N)) ns) ∧ Below W.heap.size W w' ∧ (∀ k, k < W.heap.size → L k = none) ∧ ∀ k, w'.heap.size ≤ k → L k = none := by
  have h9 := pickN_lt (zs.getD 9 0) (n := 4) (by omega)
  have hg := made_good zs
  rw [← hN] at hg
  refine (open_good (fun _ => none) 1 (madeC zs) (some b) _ W (Or.inr ⟨b, n, rfl, hM, by unfold big; omega⟩) hg).mono ?_
  rintro e w' ⟨g, L', ns, rfl, h1, h2, h3, h4, _, h6, h7⟩
  exact ⟨g, L', ns, rfl, h2, names_eq zs (by omega) (by omega) h2 h3, h1, h4, h6, h7⟩
theorem runCells_13 (g cm : Nat) (c : Cfg) (fv wv wv' : Value) (R : Rn) (ws : List Wy) : (runCells g cm c fv wv R).setIfInBounds 13 wv' = runCells g cm c fv wv' { R with ws := ws } := by
  apply Array.ext'
  rw [Array.toList_setIfInBounds]
  rfl
/-- One way more. -/
theorem wayed_step {wc w2 : World} {o : Obj} {L : Labs} {gr g cm g2 cap2 : Nat} {c : Cfg} {fv wv : Value} {R : Rn} {y : Wy} (hP : RunP wc L gr g cm c fv wv R)
    (ho2 : w2.ownsRow 0 62 3 (.slice (some ⟨g2, 0, none⟩) (R.ws.length + 1) cap2) (R.ws.length + 1) (R.ws.flatMap Wy.cells ++ y.cells)) (hg2 : (wc.alloc o).grownBy w2 wv.ownBlock) (hat2 : wv.ownBlock = some g2 ∨ g2 = wc.heap.size + 1) :
    ∃ L', RunAt (w2.setCell ⟨gr, 13, none⟩ (.slice (some ⟨g2, 0, none⟩) (R.ws.length + 1) cap2)) L' gr g cm c { R with ws := R.ws ++ [y] } ∧ Step (ofP 0) L wc L' (w2.setCell ⟨gr, 13, none⟩ (.slice (some ⟨g2, 0, none⟩) (R.ws.length + 1) cap2)) := by
  have s1 : Step (fun l => l = some (0, .dd)) L wc L (wc.alloc o) := Step.alloc L wc o
  have s0 : Step (fun _ => False) L wc L (wc.alloc o) := Step.alloc L wc o
  have a2' := hP.wy.keep s0 (fun h => h)
  obtain ⟨hr2, hl2⟩ := a2'.appended ho2 (hat2.imp_right (fun e => by simp; omega))
  have s2 : Step (fun l => l = some (0, .dd)) L wc (lay L g2 (some (0, .dd))) w2 := s1.trans (Step.of_grown hg2 (fun j hj => a2'.2 j hj) hl2)
  have b1 := hP.blk.keep s2 (by simp)
  have s3 : Step (fun l => l = some (0, .ag)) (lay L g2 (some (0, .dd))) w2 (lay L g2 (some (0, .dd))) (w2.setCell ⟨gr, 13, none⟩ (.slice (some ⟨g2, 0, none⟩) (R.ws.length + 1) cap2)) := Step.setCell _ _ _ _ b1.2
  refine ⟨lay L g2 (some (0, .dd)), ⟨fv, .slice (some ⟨g2, 0, none⟩) (R.ws.length + 1) cap2, ⟨?_, b1.2⟩, (hP.fa.keep s2 (by simp)).keep s3 (by simp), ?_⟩, (step0 s2).trans (step0 s3)⟩
  · rw [← runCells_13 g cm c fv wv _ R (R.ws ++ [y])]
    exact b1.1.set 13 _
  · have := hr2.keep s3 (by simp)
    simpa [List.flatMap_append] using this
theorem infoWay3 : (Tryz.prog.info? 62).map (fun i => (i.zero, i.size, i.bytes)) = some (some (.agg #[.int .i64 0, .int .i64 0, .int .i64 0]), 3, 24) := by kernel_rfl
structure BegAt (w wr : World) (L : Labs) (gr gc g cm : Nat) (zs : List Int) (N k : Nat) (M0 : Ag) : Prop where
  run : RunAt wr L gr g cm (madeC zs) (Rn.new k)
  ag : AgentAt wr L 1 g M0
  rb : RB w wr L cm zs N
  cf : BlkAt wr L none gc ((madeC zs).cells (some cm)) 25
theorem BegAt.step {w wr w' : World} {L L' : Labs} {gr gc g cm : Nat} {zs : List Int} {N k k' : Nat} {M0 : Ag} (h : BegAt w wr L gr gc g cm zs N k M0) (hR : RunAt w' L' gr g cm (madeC zs) (Rn.new k')) (s : Step (ofP 0) L wr L' w') : BegAt w w' L' gr gc g cm zs N k' M0 :=
  ⟨hR, h.ag.keep s (fun q => not_ofP (by decide) q), h.rb.step (step_r0 s), h.cf.keep s (fun ⟨q, e⟩ => by cases e)⟩
theorem Rn.new_succ (k : Nat) : ({ Rn.new k with ws := (Rn.new k).ws ++ [⟨-1, 0, 0⟩] } : Rn) = Rn.new (k + 1) := by
  unfold Rn.new
  simp only [Rn.mk.injEq, true_and, and_true]
  rw [← List.replicate_succ']
/-- The run is made. -/
theorem beg_new {w w2 : World} {L : Labs} {gc g cm : Nat} {zs : List Int} {N : Nat} {M0 : Ag} (hA : AgentAt w2 L 1 g M0) (hB : RB w w2 L cm zs N) (hC : BlkAt w2 L none gc ((madeC zs).cells (some cm)) 25) {W3 : World} (hb : Below w2.heap.size w2 W3) (hG : Blk W3 w2.heap.size (runCells g cm (madeC zs) (.slice none 0 0) (.slice none 0 0) (Rn.new 0)) 59) :
    BegAt w W3 (lay L w2.heap.size (some (0, .ag))) w2.heap.size gc g cm zs N 0 M0 := by
  have s : Step (fun _ => False) L w2 (lay L w2.heap.size (some (0, .ag))) W3 := Step.of_below' hb (fun k hk => by rw [lay_other _ _ (by omega)])
  refine ⟨⟨_, _, ⟨⟨hG, lay_same _ _ _⟩, RowAt.nil _ _ _ _ _, RowAt.nil _ _ _ _ _⟩⟩, hA.keep s (fun _ h => h), hB.step (s.mono (fun _ h => h.elim)), hC.keep s (fun h => h)⟩
set_option maxRecDepth 100000 in
set_option maxHeartbeats 8000000 in
theorem kbegin_any (A : Nat → Addr) (la : Option Addr) (cap : Nat) (zs : List Int) (N : Nat) (hN : N = 1 + pickN (zs.getD 9 0) 4) (w : World) (hS : Sents.Holds w 260 gl 11 A) (hr : ∀ z ∈ zs, InR z) (h : IntsAt w la zs) :
    Calls Tryz.prog 57 #[.slice la zs.length cap] w fun e w' => ∃ gr, e = .returned (.pointer (some ⟨gr, 0, none⟩)) ∧ RunAny w zs N 3 gr w' := by
  have HMade := hide (made_any la cap zs w hr h)
  have HS := hide hS
  have hN1 : 1 ≤ N := by omega
  have hN4 : N ≤ 4 := by have := pickN_lt (zs.getD 9 0) (n := 4) (by omega); omega
  rw [← hN] at HMade
  have HN := hide hN
  have hcfg := Cfg.ok (made_good zs).1
  obtain ⟨dn, hdn⟩ : ∃ dn : Nat, (madeC zs).d = dn := ⟨(madeC zs).d.toNat, by have := hcfg.d; omega⟩
  have hdn1 : 1 ≤ dn := by have := hcfg.d; omega
  have hdn4 : dn ≤ 4 := by have := hcfg.d; omega
  have Hdn := hide hdn
  obtain ⟨i1, hi1, hy0, hy1, hy2⟩ := info_parts infoWay3
  generalize zs.length = nz at *
  clear h hr hS hN hcfg hdn
  go_enter Tryz.func57, Tryz.ntmps57
  go_wp2_with fail
  refine HMade.out.mono ?_
  rintro e w1 ⟨b, rfl, hb, ⟨n, hn, hM⟩, hB1⟩
  have HM := hide hM
  have HB1 := hide hB1
  clear hM hB1
  go_wp2_with fail
  generalize hW : World.alloc w1 _ = W
  have hC : Blk W w1.heap.size ((madeC zs).cells (some b)) 25 := by rw [← hW]; exact Blk.new w1 _ _
  have hBW : Below w.heap.size w W := by rw [← hW]; exact HB1.out.alloc HB1.out.size _
  have hMW : OM W b n (DT (madeT zs N)) := by rw [← hW]; exact HM.out.alloc _
  have HO := hide (ropen0 zs b n N HN.out W hn hMW)
  have HC := hide hC
  have HMW := hide hMW
  have HBW := hide hBW
  clear hW hC hBW hMW HM HB1
  generalize w1.heap.size = gc at *
  refine HO.out.mono ?_
  rintro e w2 ⟨g, L, ns, rfl, hp, hns, hA, hB2, hL2, hL3⟩
  have hC2 : BlkAt w2 L none gc ((madeC zs).cells (some b)) 25 := ⟨HC.out.below hB2 HC.out.lt, hL2 gc HC.out.lt⟩
  have HRB : Hid (RB w w2 L b zs N) := ⟨⟨n, hn, om_below HMW.out hB2 HMW.out.lt, hL2 b HMW.out.lt⟩, fun k hk => hL2 k (Nat.lt_of_lt_of_le hk HBW.out.size), HBW.out.trans (hB2.mono HBW.out.size)⟩
  have e0 : w2.cell? ⟨gc, 0, none⟩ = some (.int .i64 (madeC zs).d) := hC2.1.cell 0
  have e1 : w2.cell? ⟨gc, 1, none⟩ = some (.map (some b)) := hC2.1.cell 1
  have e2 : w2.cell? ⟨gc, 2, none⟩ = some (.int .i64 (madeC zs).q) := hC2.1.cell 2
  have e3 : w2.cell? ⟨gc, 3, none⟩ = some (.int .i64 (madeC zs).at') := hC2.1.cell 3
  have e4 : w2.cell? ⟨gc, 4, none⟩ = some (.int .i64 (madeC zs).ba) := hC2.1.cell 4
  have e5 : w2.cell? ⟨gc, 5, none⟩ = some (.int .i64 (madeC zs).ca) := hC2.1.cell 5
  have e6 : w2.cell? ⟨gc, 6, none⟩ = some (.int .i64 (madeC zs).ti) := hC2.1.cell 6
  have e7 : w2.cell? ⟨gc, 7, none⟩ = some (.int .i64 (madeC zs).wi) := hC2.1.cell 7
  have e8 : w2.cell? ⟨gc, 8, none⟩ = some (.int .i64 (madeC zs).le) := hC2.1.cell 8
  have e9 : w2.cell? ⟨gc, 9, none⟩ = some (.float .f64 (madeC zs).th) := hC2.1.cell 9
  have e10 : w2.cell? ⟨gc, 10, none⟩ = some (.int .i64 (madeC zs).op) := hC2.1.cell 10
  have HC2 := hide hC2
  have Hp := hide hp
  have Hns := hide hns
  have HA := hide hA
  clear hp hns hA hB2 hL2 hL3 hC2 HO HC HMW HBW
  generalize hcc : madeC zs = cc at e0 e1 e2 e3 e4 e5 e6 e7 e8 e9 e10
  have Hcc := hide hcc
  clear hcc
  go_wp2_with fail
  generalize hW3 : World.alloc w2 _ = W3
  have hb3 : Below w2.heap.size w2 W3 := by rw [← hW3]; exact (Below.refl _ _).alloc (Nat.le_refl _) _
  have hG3 : Blk W3 w2.heap.size (runCells g b (madeC zs) (.slice none 0 0) (.slice none 0 0) (Rn.new 0)) 59 := by rw [← hW3, Hcc.out]; exact Blk.new w2 _ _
  have HBeg := hide (beg_new HA.out HRB.out HC2.out hb3 hG3)
  clear hW3 hb3 hG3 e0 e1 e2 e3 e4 e5 e6 e7 e8 e9 e10 HA HRB HC2 Hcc
  generalize w2.heap.size = gr at *
  go_loopw [7] (fun i wr => ∃ (k : Nat) (L : Labs), k ≤ dn ∧ i = .int .i64 k ∧ BegAt w wr L gr gc g b zs N k (Ag.new (madeC zs) (DT (madeT zs N)) ns)) (fun i _ => dn - (intOf i).toNat)
  case atStart => exact ⟨0, _, Nat.zero_le _, rfl, HBeg.out⟩
  case round =>
    clear HBeg
    obtain ⟨k, L, hk, rfl, hBg⟩ := hrel
    have c0 : wr.cell? ⟨gc, 0, none⟩ = some (.int .i64 dn) := by have := hBg.cf.1.cell 0; rw [← Hdn.out]; exact this
    by_cases hlt : k < dn
    · have hltI : (k : Int) < (dn : Int) := by omega
      obtain ⟨fv, wv, hP⟩ := hBg.run
      have hwl : (Rn.new k).ws.length = k := by simp [Rn.new]
      obtain ⟨wa, wk, rfl, _⟩ := hP.wy.shape
      have c13 : wr.cell? ⟨gr, 13, none⟩ = some (.slice wa (Rn.new k).ws.length wk) := hP.blk.1.cell 13
      have HP := hide hP
      have HBg := hide hBg
      clear hP hBg
      generalize hln : (Rn.new k).ws.length = kn1 at *
      obtain rfl : k = kn1 := hwl.symm
      have Hln := hide hln
      have HRow : Hid (wr.ownsRow 0 62 3 (.slice wa k wk) k ((Rn.new k).ws.flatMap Wy.cells)) := by have q := HP.out.wy.1; rw [hln] at q; exact q
      have HWl : Hid (∀ q, (Value.slice wa k wk).ownBlock = some q → L q = some (0, .dd)) := fun q hq => HP.out.wy.2 q hq
      clear hln hwl
      go_wp2_with (first
        | (at_builtin; refine wpList_append_lies _ rfl _ _ 57 rfl 0 62 i1 (.agg #[.int .i64 0, .int .i64 0, .int .i64 0]) 3 24 Tryz.underlying57 hi1 hy0 hy1 hy2 rfl (by decide) (.slice wa k wk) k ((Rn.new k).ws.flatMap Wy.cells) rfl (HRow.out.alloc _) ⟨wr.heap.size, 0, none⟩ 1 1 (Wy.cells ⟨-1, 0, 0⟩) rfl rfl (World.news_of_block (cs := (Wy.cells ⟨-1, 0, 0⟩).toArray) (t := 62) (fr := (0, 0)) (heap_alloc_new wr _)) (by simp [Value.oneCell', Wy.cells]) (by decide) (by unfold maxLen; omega) (by omega) (Nat.zero_le _) (wr.heap.size + 1) (by simp) ?_; intro g3 cap3 w3 hown3 hg3 hat3 hlt3; have hBk := Blk.grown (HP.out.blk.1.alloc _) hg3 (fun e => by have := HWl.out gr e.symm; rw [HP.out.blk.2] at this; simp at this); have z13 := hBk.cell 13; have y13 := hBk.frozen 13; simp [runCells] at z13; have Ho3 := hide hown3; have Hg3 := hide hg3; have Hat3 := hide hat3; clear hown3 hg3 hat3 hBk)
        | fail)
      have HW : Hid (∃ L', RunAt (w3.setCell ⟨gr, 13, none⟩ (.slice (some ⟨g3, 0, none⟩) (k + 1) cap3)) L' gr g b (madeC zs) (Rn.new (k + 1)) ∧ Step (ofP 0) L wr L' (w3.setCell ⟨gr, 13, none⟩ (.slice (some ⟨g3, 0, none⟩) (k + 1) cap3))) := by
        have q := wayed_step (y := ⟨-1, 0, 0⟩) HP.out (by rw [Hln.out]; exact Ho3.out) Hg3.out Hat3.out
        rw [Rn.new_succ, Hln.out] at q
        exact q
      go_roundw
      case rel =>
        obtain ⟨L', q1, q2⟩ := HW.out
        exact ⟨k + 1, L', by omega, by go_num, HBg.out.step q1 q2⟩
      case measure => simp [intOf]; omega
    · obtain rfl : dn = k := by omega
      have hltI : ¬ ((dn : Int) < (dn : Int)) := by omega
      obtain ⟨mn, hmn, hOM, _⟩ := hBg.rb.cm
      have hK0 := RK.start (w := w) HN.out Hdn.out hOM Hp.out Hns.out hBg.run hBg.ag hBg.rb
      have href := hK0.subOk (by show 0 < 100; omega) (d := 0) (tn := 0) (size := 5) (by rw [Hdn.out]; omega) (by omega) hN4 (by omega)
      have hFG := first_go HN.out Hdn.out hdn1 hOM Hns.out href
      have hpi := (PInv.new (ns := ns) (show GoodC (madeC zs) (DT (madeT zs N)) from by have := made_good zs; rw [← HN.out] at this; exact this)).submitted hK0.inv (rbat 0 0 0 5)
      have HSub := hide (rsub_any A w wr L gr g b zs N _ _ 0 0 0 5 HN.out HS.out hK0 (by omega) (by show 0 < 100; omega) (by omega) (by omega) (by omega))
      have HFG := hide hFG
      have Hpi := hide hpi
      clear hBg hOM hK0 href hFG hpi
      go_wp2_with fail
      refine HSub.out.mono ?_
      rintro e w4 ⟨rfl, L4, hK4⟩
      have hp0 : pickN 0 (madeC zs).d.toNat = 0 := by simp [pickN]
      have hp1 : pickN 0 N = 0 := by simp [pickN]
      rw [hp0, hp1] at hK4
      have hK4' : RK w w4 L4 gr g b zs N ((Rn.new dn).more (rbat 0 0 0 5)) ((Ag.new (madeC zs) (DT (madeT zs N)) ns).submitted (rbat 0 0 0 5)) 1 := hK4
      have HTk := hide (rtick_any w w4 L4 gr g b zs N _ _ 1 0 0 hK4' (by omega) (by omega) (by omega) (by omega))
      have hpi2 := Hpi.out.ticked hK4'.inv (ms := 0) (draw := 0) (by omega) (by omega) (by omega) (by omega)
      have hone := HFG.out.one
      obtain ⟨o, ho, hwy⟩ := HFG.out.way
      have Hpi2 := hide hpi2
      have Ho := hide ho
      have Hwy := hide hwy
      have Hone := hide hone
      clear hK4 hK4' hpi2 ho hwy hone HFG Hpi HSub c0 hp0 hp1
      go_wp2_with fail
      refine HTk.out.mono ?_
      rintro e w5 ⟨v, R5, L5, rfl, hRow5, hK5, hn5⟩
      obtain ⟨va, vk, rfl, _⟩ := hRow5.shape
      have hl5 : ((((Ag.new (madeC zs) (DT (madeT zs N)) ns).submitted (rbat 0 0 0 5)).ticked 0 0).2.length) = 1 := Hone.out
      rw [hl5]
      have HRp := hide (rreply_live w w5 L5 gr g b zs N R5 _ 2 0 o true 0 hK5 (by omega) (by omega) Ho.out Hwy.out)
      obtain ⟨p, bb, a1, a2, a3, a4⟩ := hK5.acked (by omega) (draw := 0) (by omega) Ho.out Hwy.out
      have hlen5 : R5.fs.length = 1 := by rw [← hK5.n, hn5]; rfl
      obtain rfl : p = 0 := by omega
      have hpi3 := Hpi2.out.replied hK5.inv (by omega) (draw := 0) (by omega) Ho.out Hwy.out true
      have Hpi3 := hide hpi3
      have Ha3 := hide a3
      have Ha4 := hide a4
      have Hn5 := hide hn5
      clear hRow5 hK5 hn5 hl5 a1 a2 a3 a4 hlen5 hpi3 Hpi2 Ho Hwy Hone HTk
      go_wp2_with fail
      refine HRp.out.mono ?_
      rintro e w6 ⟨rfl, R6, L6, hK6, hn6⟩
      obtain ⟨fv, wv, hP6⟩ := hK6.at'
      obtain ⟨f, hf⟩ : ∃ f, R6.fs[0]? = some f := ⟨_, List.getElem?_eq_getElem (by rw [← hK6.n, hn6, Hn5.out]; show 0 < 1; omega)⟩
      have hst : f.b.st = 2 := by
        have q := map_at hK6.bs hf
        rw [Ha3.out] at q
        cases q
        exact Ha4.out
      obtain ⟨gf, fk, rfl, _, hcf, _⟩ := hP6.fact hf
      have k12 : w6.cell? ⟨gr, 12, none⟩ = some (.slice (some ⟨gf, 0, none⟩) R6.fs.length fk) := hP6.blk.1.cell 12
      have k16 : w6.cell? ⟨gr, 16, none⟩ = some (.bool true) := hP6.blk.1.cell 16
      have k17 : w6.cell? ⟨gr, 17, none⟩ = some (.bool true) := hP6.blk.1.cell 17
      have k18 : w6.cell? ⟨gr, 18, none⟩ = some (.bool true) := hP6.blk.1.cell 18
      have f4 : w6.cell? ⟨gf, 4, none⟩ = some (.int .i64 2) := by rw [← hst]; exact hcf 4 _ rfl
      have hfl := (List.getElem?_eq_some_iff.1 hf).1
      have hflI : (0 : Int) < (R6.fs.length : Int) := by omega
      have HK6 := hide hK6
      clear hK6 hP6 hcf hf hst
      go_wp2_with fail
      go_ret
      exact ⟨gr, rfl, g, b, R6, _, L6, HK6.out, Hpi3.out⟩
end Go.Proofs.YtojpjaifhjigfaaGreatDoor

/- conduitkeep's run: an agent with a script behind it. -/
namespace Go.Proofs.YtojpjaifhjigfaaGreatDoor
open Go.RowKit Go.Maps

set_option maxRecDepth 100000 in
set_option maxHeartbeats 8000000 in
theorem kplayed_core (A : Nat → Addr) (la sa : Option Addr) (cap scap : Nat) (zs : List Int) (ss : List St) (N : Nat) (hN : N = 1 + pickN (zs.getD 9 0) 4) (w : World) (hS : Sents.Holds w 260 gl 11 A) (h2 : StepsAt w sa ss) (hok : ∀ s ∈ ss, s.Ok) (hlen : ss.length ≤ 3600000000000)
    (HBeg : Calls Tryz.prog 57 #[.slice la zs.length cap] w fun e w' => ∃ gr, e = .returned (.pointer (some ⟨gr, 0, none⟩)) ∧ RunAny w zs N 3 gr w') :
    Calls Tryz.prog 21 #[.slice la zs.length cap, .slice sa ss.length scap] w fun e w' => ∃ gr, e = .returned (.pointer (some ⟨gr, 0, none⟩)) ∧ RunAny w zs N (ss.length + 3) gr w' := by
  have HBg := hide HBeg
  have HSt := hide (fun gr W t (s : St) (hW : RunAny w zs N t gr W) (ht : t + 10 ≤ 4000000000000) (hs : s.Ok) => kstep_any A w W gr zs N t s hN hS hW ht hs)
  have H2 := hide h2
  have Hok := hide hok
  obtain ⟨ns, hns⟩ : ∃ ns, ss.length = ns := ⟨_, rfl⟩
  rw [hns] at hlen ⊢
  have Hns := hide hns
  generalize zs.length = nz at *
  clear hS h2 hok hN HBeg hns
  go_enter Tryz.func21, Tryz.ntmps21
  go_wp2_with fail
  refine HBg.out.mono ?_
  rintro e w1 ⟨gr, rfl, hR1⟩
  have HR1 := hide hR1
  clear hR1 HBg
  go_wp2_with fail
  go_loopw [6] (fun i wr => ∃ k : Nat, k ≤ ns ∧ i = .int .i64 k ∧ RunAny w zs N (k + 3) gr wr) (fun i _ => ns - (intOf i).toNat)
  case atStart => exact ⟨0, Nat.zero_le _, rfl, HR1.out⟩
  case round =>
    clear HR1
    obtain ⟨k, hk, rfl, hR⟩ := hrel
    obtain ⟨k16, _, _⟩ := hR.flags
    have HR := hide hR
    clear hR
    by_cases hlt : k < ns
    · have hltI : (k : Int) < (ns : Int) := by omega
      obtain ⟨s, hs⟩ : ∃ s, ss[k]? = some s := ⟨_, List.getElem?_eq_getElem (by rw [Hns.out]; exact hlt)⟩
      have hat := H2.out.below HR.out.b
      rcases hat with hnil | ⟨b, off, rfl, hbl, hc⟩
      · rw [hnil] at hs; cases hs
      have HRg : Hid (wr.rangeAt b (off + k * 5) s.cells) := fun j v hv => hc k s hs j v hv
      have HCall := hide (HSt.out gr wr (k + 3) s HR.out (by omega) (Hok.out s (List.mem_of_getElem? hs)))
      clear hc hs hbl
      obtain ⟨sk, sd, st, sn, sg⟩ := s
      go_wp2_with (first
        | (refine wpList_load_mid rfl 124 _ rfl b (off + k * 5) rfl [.int .i64 sk, .int .i64 sd, .int .i64 st, .int .i64 sn, .bool sg] _ HRg.out Tryz.underlying124 rfl infoStep1 ?_)
        | fail)
      refine HCall.out.mono ?_
      rintro e w2 ⟨rfl, hR2⟩
      have HR2 := hide hR2
      clear hR2 HCall
      go_wp2_with fail
      go_roundw
      case rel => exact ⟨k + 1, by omega, by go_num, by rw [show k + 1 + 3 = k + 3 + 1 from by omega]; exact HR2.out⟩
      case measure => simp [intOf]; omega
    · obtain rfl : ns = k := by omega
      have hltI : ¬ ((ns : Int) < (ns : Int)) := by omega
      go_wp2_with fail
      go_ret
      exact ⟨gr, rfl, HR.out⟩
theorem kplayed_any (A : Nat → Addr) (la sa : Option Addr) (cap scap : Nat) (zs : List Int) (ss : List St) (N : Nat) (hN : N = 1 + pickN (zs.getD 9 0) 4) (w : World) (hS : Sents.Holds w 260 gl 11 A) (hr : ∀ z ∈ zs, InR z) (h : IntsAt w la zs) (h2 : StepsAt w sa ss) (hok : ∀ s ∈ ss, s.Ok) (hlen : ss.length ≤ 3600000000000) :
    Calls Tryz.prog 21 #[.slice la zs.length cap, .slice sa ss.length scap] w fun e w' => ∃ gr, e = .returned (.pointer (some ⟨gr, 0, none⟩)) ∧ RunAny w zs N (ss.length + 3) gr w' :=
  kplayed_core A la sa cap scap zs ss N hN w hS h2 hok hlen (kbegin_any A la cap zs N hN w hS hr h)
end Go.Proofs.YtojpjaifhjigfaaGreatDoor

/- conduitkeep's run: reply to what is under way, and what it leaves as it was. -/
namespace Go.Proofs.YtojpjaifhjigfaaGreatDoor
open Go.RowKit Go.Maps

/-- What reply brings, and what it leaves. -/
def ReplyS (w wr : World) (L : Labs) (gr g cm : Nat) (zs : List Int) (N : Nat) (M' : Ag) (t : Nat) (R : Rn) (e : Ending) (w' : World) : Prop :=
  e = .returned (.tuple #[]) ∧ ∃ R' L', RK w w' L' gr g cm zs N R' M' t ∧ R'.n = R.n ∧ Step ofR L wr L' w'

set_option maxRecDepth 100000 in
set_option maxHeartbeats 8000000 in
theorem rreply_step0 (w wr : World) (L : Labs) (gr g cm : Nat) (zs : List Int) (N : Nat) (R : Rn) (M : Ag) (t d : Nat) (o : Out) (good : Bool) (draw : Int) (hK : RK w wr L gr g cm zs N R M t) (hLn : ∀ k, wr.heap.size ≤ k → L k = none) (ht : t + 10 ≤ 4000000000000) (hd : 0 ≤ draw) (ho : M.os[d]? = some o) (hw : o.way ≠ -1) :
    Calls Tryz.prog 22 #[.pointer (some ⟨gr, 0, none⟩), .int .i64 d, .bool good, .int .i64 draw] wr fun e w' => ReplyS w wr L gr g cm zs N (M.replied d good draw) (t + 1) R e w' := by
  have hdl := (List.getElem?_eq_some_iff.1 ho).1
  obtain ⟨y, hy⟩ : ∃ y, R.ws[d]? = some y := ⟨_, List.getElem?_eq_getElem (by rw [hK.rw'.wl]; exact hdl)⟩
  obtain ⟨y1, y2, _⟩ := hK.rw'.ws d y o hy ho
  obtain ⟨p, f, hp, hfp, hRep⟩ := hK.repOk (by omega) hd ho hw good
  obtain ⟨fv, wv, hP⟩ := hK.at'
  obtain ⟨gw, wk, rfl, _, hcw, _⟩ := hP.way hy
  have hwl : R.ws.length = M.os.length := hK.rw'.wl
  have hdI : (d : Int) < (R.ws.length : Int) := by omega
  have c13 : wr.cell? ⟨gr, 13, none⟩ = some (.slice (some ⟨gw, 0, none⟩) R.ws.length wk) := hP.blk.1.cell 13
  have z0 : wr.cell? ⟨gw, d * 3, none⟩ = some (.int .i64 (p : Int)) := by rw [← hp, ← y1]; exact hcw 0 _ rfl
  have z1 : wr.cell? ⟨gw, d * 3 + 1, none⟩ = some (.int .i64 o.sends) := by rw [← y2]; exact hcw 1 _ rfl
  have z2 : wr.cell? ⟨gw, d * 3 + 2, none⟩ = some (.int .i64 y.bg) := hcw 2 _ rfl
  have HRp : Hid (∀ W, Below wr.heap.size wr W → Calls Tryz.prog 31 #[.pointer (some ⟨g, 0, none⟩), .int .i64 d, .int .i64 o.sends, .bool good, .int .i64 draw] W fun e w' => e = .returned .nilIface ∧ Turned W L 1 g (M.replied d good draw) w') := fun W hW =>
    reply_big L 1 g t d M o good draw W (hK.ag.keep (Step.of_below (p := fun _ => False) hW) (fun _ h => h)) hK.inv (by omega) hd ho hw
  have hcfg := Cfg.ok (show GoodC (madeC zs) (DT (madeT zs N)) from by have := hK.inv.good; rw [hK.c, hK.D] at this; exact this).1
  have htime := hK.time0
  have HOver := hide (fun L' W (hW : RunAt W L' gr g cm (madeC zs) R) => kover_any L' gr g cm (madeC zs) R d p y f good W hW hy (y1.trans hp) hfp (by omega) (by have h2 := hcfg.ba; have h3 := hcfg.ca; omega))
  have h100 : (R.over (madeC zs).ba d good).fs.length ≤ 100 := by
    have h1 := hRep.n.2
    unfold Rn.replied at h1
    simp only [looked_len] at h1
    rw [h1, ← hK.n]
    exact hK.n100
  have HLook := hide (fun L' W (hW : RunAt W L' gr g cm (madeC zs) (R.over (madeC zs).ba d good)) (hA : AgentAt W L' 1 g (M.replied d good draw)) => klook_any L' gr g cm (madeC zs) (R.over (madeC zs).ba d good) (M.replied d good draw) W hW hA hRep.len (by omega) (fun i b hb => ids_find hRep.ids (by rw [hRep.len]; omega) hb) hRep.goes)
  have HRep := hide hRep
  have HK := hide hK
  have HP := hide hP
  have HLn := hide hLn
  have hp0 : ¬ ((p : Int) < 0) := by omega
  clear hcw hK hP ho hy y1 y2 hw hRep hfp hp hLn htime hcfg
  go_enter Tryz.func22, Tryz.ntmps22
  go_wp2_with fail
  generalize hW1 : World.alloc wr _ = W1
  have hb1 : Below wr.heap.size wr W1 := by rw [← hW1]; exact (Below.refl _ _).alloc (Nat.le_refl _) _
  have hB1 : Blk W1 wr.heap.size #[.int .i64 (p : Int), .int .i64 o.sends, .int .i64 y.bg] 62 := by rw [← hW1]; exact Blk.new wr _ _
  have k0 : W1.cell? ⟨gr, 0, none⟩ = some (.pointer (some ⟨g, 0, none⟩)) := (HP.out.blk.1.below hb1 HP.out.blk.1.lt).cell 0
  have m1 : W1.cell? ⟨wr.heap.size, 1, none⟩ = some (.int .i64 o.sends) := hB1.cell 1
  have HB1 : Hid (BlkAt W1 L none wr.heap.size #[.int .i64 (p : Int), .int .i64 o.sends, .int .i64 y.bg] 62) := ⟨hB1, HLn.out _ (Nat.le_refl _)⟩
  have Hb1 := hide hb1
  clear hW1 hb1 hB1 z0 z1 z2 c13
  have HP1 := hide (HP.out.keep (Step.of_below (p := fun _ => False) Hb1.out) (fun _ h => h))
  have HKeep : Hid (∀ W L2, Step (ofP 1) L W1 L2 W → W.cell? ⟨gr, 0, none⟩ = some (.pointer (some ⟨g, 0, none⟩)) ∧ W.cell? ⟨wr.heap.size, 1, none⟩ = some (.int .i64 o.sends)) := fun W L2 hW => ⟨(HP1.out.keep hW (fun q => not_ofP (by decide) q)).blk.1.cell 0, (HB1.out.keep hW (fun ⟨q, e⟩ => by cases e)).1.cell 1⟩
  go_cut [9] (fun s9 wx => s9 = .nilIface ∧ Turned W1 L 1 g (M.replied d good draw) wx)
  case first =>
    go_region_held3 (fun w' => w'.cell? ⟨gr, 0, none⟩ = some (.pointer (some ⟨g, 0, none⟩)) ∧ w'.cell? ⟨wr.heap.size, 1, none⟩ = some (.int .i64 o.sends)) (go_keep)
      (first | (go_at_call 31; refine (HRp.out _ (by first | exact Hb1.out | exact Hb1.out.drew)).mono ?_; rintro e w2 ⟨rfl, L2, hA2, hS2⟩; have HA2 := hide hA2; have HS2 : Hid (Step (ofP 1) L W1 L2 w2) := (by first | exact hS2 | exact (Step.drew L W1).trans hS2); have f1 := (HKeep.out w2 L2 HS2.out).1; have f2 := (HKeep.out w2 L2 HS2.out).2; clear hA2 hS2))
    all_goals
      go_wp2_with fail
      go_meet
      exact ⟨rfl, _, HA2.out, HS2.out⟩
  case rest =>
    obtain ⟨rfl, L2, hA2, hS2⟩ := hcut
    have hP2 := HP1.out.keep hS2 (fun q => not_ofP (by decide) q)
    have hB2 := HB1.out.keep hS2 (fun ⟨q, e⟩ => by cases e)
    have n0 : wc.cell? ⟨wr.heap.size, 0, none⟩ = some (.int .i64 (p : Int)) := hB2.1.cell 0
    have d16 : wc.cell? ⟨gr, 16, none⟩ = some (.bool true) := hP2.blk.1.cell 16
    have f16 : wc.frozen? ⟨gr, 16, none⟩ = false := hP2.blk.1.frozen 16
    obtain ⟨hP3, hS3⟩ := hP2.setOk
    have HB3 := hide (hB2.keep hS3 (by simp))
    have HA3 := hide (hA2.keep hS3 (fun q e => by cases e))
    have HS3 : Hid (Step ofR L wr L2 (wc.setCell ⟨gr, 16, none⟩ (.bool true))) := (Step.of_below Hb1.out).trans ((step_r1 hS2).trans (step_r0 (step0 hS3)))
    have HR3 : Hid (RunAt (wc.setCell ⟨gr, 16, none⟩ (.bool true)) L2 gr g cm (madeC zs) R) := ⟨_, _, hP3⟩
    clear hP2 hB2 hP3 hS3 hA2 hS2 k0 m1
    go_wp2_with fail
    generalize hW3 : wc.setCell ⟨gr, 16, none⟩ (.bool true) = W3 at *
    clear hW3 d16 f16 n0 HKeep HP1 HP
    refine (HOver.out L2 W3 HR3.out).mono ?_
    rintro e w4 ⟨rfl, hR4, hS4⟩
    have HR4 := hide hR4
    have HB4 := hide (HB3.out.keep hS4 (fun ⟨q, e⟩ => by cases e))
    have HA4 := hide (HA3.out.keep hS4 (fun q => not_ofP (by decide) q))
    have HS4 : Hid (Step ofR L wr L2 w4) := HS3.out.trans (step_r0 hS4)
    clear hR4 hS4 HR3 HB3 HA3 HS3
    go_wp2_with fail
    refine (HLook.out L2 w4 HR4.out HA4.out).mono ?_
    rintro e w5 ⟨rfl, hR5, hS5⟩
    have HB5 := hide (HB4.out.keep hS5 (fun ⟨q, e⟩ => by cases e))
    have HA5 := hide (HA4.out.keep hS5 (fun q => not_ofP (by decide) q))
    have HS5 : Hid (Step ofR L wr L2 w5) := HS4.out.trans (step_r0 hS5)
    have hR5' : RunAt w5 L2 gr g cm (madeC zs) (R.replied (M.replied d good draw) (madeC zs).ba d good) := hR5
    obtain ⟨fv', wv', hP5⟩ := hR5'
    obtain ⟨f', hf', hst⟩ := HRep.out.fact
    obtain ⟨gf, fk, rfl, hgf, hcf, _⟩ := hP5.fact hf'
    have hlf := (List.getElem?_eq_some_iff.1 hf').1
    have k12 : w5.cell? ⟨gr, 12, none⟩ = some (.slice (some ⟨gf, 0, none⟩) (R.replied (M.replied d good draw) (madeC zs).ba d good).fs.length fk) := hP5.blk.1.cell 12
    have n0 : w5.cell? ⟨wr.heap.size, 0, none⟩ = some (.int .i64 (p : Int)) := HB5.out.1.cell 0
    have a0 := hcf 0 _ rfl
    have a1 := hcf 1 _ rfl
    have a2 := hcf 2 _ rfl
    have a3 := hcf 3 _ rfl
    have a4 := hcf 4 _ rfl
    have a5 := hcf 5 _ rfl
    have a6 := hcf 6 _ rfl
    have a7 := hcf 7 _ rfl
    simp only [Nat.add_zero] at a0
    have hgrl := hP5.blk.1.lt
    have hwrl := HB5.out.1.lt
    have Hst := hide hst
    have HP5 := hide hP5
    generalize hm : (R.replied (M.replied d good draw) (madeC zs).ba d good).fs.length = m at *
    have hpI : (p : Int) < (m : Int) := by omega
    have Hm := hide hm
    clear hR5 hS5 HR4 HB4 HA4 HS4 hcf hf' hst hP5 hm
    obtain ⟨⟨fd, ften, fid, fbo, fst', ffl⟩, faf, fsn⟩ := f'
    simp only at a0 a1 a2 a3 a4 a5 a6 a7 Hst
    go_wp2_with fail
    have hgfl : gf < w5.heap.size := hgf
    go_cut [10] (fun s10 wx => s10 = .pointer (some ⟨w5.heap.size, 0, none⟩) ∧ Blk wx w5.heap.size #[.int .i64 fd, encStr ften, encStr fid, encStr fbo, .int .i64 fst', .int .i64 ffl, .int .i64 faf, .int .i64 fsn] 92 ∧ Below w5.heap.size w5 wx)
    case first =>
      have n12 := World.new_ne w5 ⟨gr, 12, none⟩ k12
      have nb0 := World.new_ne w5 ⟨wr.heap.size, 0, none⟩ n0
      have nf0 := World.new_ne w5 ⟨gf, p * 8, none⟩ a0
      go_region_held3 (fun w' => w'.cell? ⟨gr, 12, none⟩ = some (.slice (some ⟨gf, 0, none⟩) m fk) ∧ w'.cell? ⟨wr.heap.size, 0, none⟩ = some (.int .i64 (p : Int)) ∧ w'.cell? ⟨gf, p * 8, none⟩ = some (.int .i64 fd) ∧ w'.cell? ⟨gf, p * 8 + 1, none⟩ = some (encStr ften) ∧ w'.cell? ⟨gf, p * 8 + 2, none⟩ = some (encStr fid) ∧ w'.cell? ⟨gf, p * 8 + 3, none⟩ = some (encStr fbo) ∧ w'.cell? ⟨gf, p * 8 + 4, none⟩ = some (.int .i64 fst') ∧ w'.cell? ⟨gf, p * 8 + 5, none⟩ = some (.int .i64 ffl) ∧ w'.cell? ⟨gf, p * 8 + 6, none⟩ = some (.int .i64 faf) ∧ w'.cell? ⟨gf, p * 8 + 7, none⟩ = some (.int .i64 fsn)) (go_keep) (fail)
      all_goals
        go_wp2_with fail
        go_meet
        exact ⟨rfl, Blk.made rfl _ _, ((Below.refl _ _).alloc (Nat.le_refl _) _).drew⟩
    case rest =>
      obtain ⟨rfl, hF6, hb6⟩ := hcut
      have hP6 := HP5.out.keep (Step.of_below (p := fun _ => False) hb6) (fun _ h => h)
      have k18 : wc.cell? ⟨gr, 18, none⟩ = some (.bool true) := hP6.blk.1.cell 18
      have kf18 : wc.frozen? ⟨gr, 18, none⟩ = false := hP6.blk.1.frozen 18
      have k4 : wc.cell? ⟨w5.heap.size, 4, none⟩ = some (.int .i64 fst') := hF6.cell 4
      obtain ⟨hP7, hS7⟩ := hP6.setKept
      have HP7 := hide hP7
      have HS7 : Hid (Step ofR L wr L2 (wc.setCell ⟨gr, 18, none⟩ (.bool true))) := HS5.out.trans ((Step.of_below hb6).trans (step_r0 (step0 hS7)))
      have HA7 : Hid (AgentAt (wc.setCell ⟨gr, 18, none⟩ (.bool true)) L2 1 g (M.replied d good draw)) := (HA5.out.keep (Step.of_below (p := fun _ => False) hb6) (fun _ h => h)).keep hS7 (fun q e => by cases e)
      have HFin : Hid (ReplyS w wr L gr g cm zs N (M.replied d good draw) (t + 1) R (.returned (.tuple #[])) (wc.setCell ⟨gr, 18, none⟩ (.bool true))) := ⟨rfl, _, L2, HRep.out.rk HK.out ⟨_, _, HP7.out⟩ HA7.out HS7.out, HRep.out.n.1, HS7.out⟩
      have hst := Hst.out
      clear hF6 hb6 hP6 hP7 hS7 a0 a1 a2 a3 a4 a5 a6 a7 k12 n0
      rcases hst with ⟨rfl, rfl⟩ | ⟨rfl, rfl | rfl⟩
      all_goals
        go_wp2_with fail
        first | go_end0 | refine bodyPost_ret (results_none rfl _ _ _) rfl ?_
        exact HFin.out
theorem rreply_step (w wr : World) (L : Labs) (gr g cm : Nat) (zs : List Int) (N : Nat) (R : Rn) (M : Ag) (t d : Nat) (o : Out) (good : Bool) (draw : Int) (hK : RK w wr L gr g cm zs N R M t) (ht : t + 10 ≤ 4000000000000) (hd : 0 ≤ draw) (ho : M.os[d]? = some o) (hw : o.way ≠ -1) :
    Calls Tryz.prog 22 #[.pointer (some ⟨gr, 0, none⟩), .int .i64 d, .bool good, .int .i64 draw] wr fun e w' => ReplyS w wr L gr g cm zs N (M.replied d good draw) (t + 1) R e w' := by
  refine (rreply_step0 w wr (clip L wr.heap.size) gr g cm zs N R M t d o good draw hK.clip (fun _ hk => clip_none L hk) ht hd ho hw).mono ?_
  rintro e w' ⟨rfl, R', L', h1, h2, h3⟩
  exact ⟨rfl, R', L', h1, h2, (Step.clipped L wr).trans h3⟩
end Go.Proofs.YtojpjaifhjigfaaGreatDoor
