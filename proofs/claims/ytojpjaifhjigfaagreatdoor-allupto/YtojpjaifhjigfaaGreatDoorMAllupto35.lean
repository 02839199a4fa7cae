/- Steps of the proof (several texts in one): AllCrash, AllExt. -/
import Derived.Test.YtojpjaifhjigfaaGreatDoorMAllupto34

/- (*pair).crashed. -/
namespace Go.Proofs.YtojpjaifhjigfaaGreatDoor
open Go.RowKit Go.Maps
attribute [local go_sem] run_store_float

/-- The document's agent of a stand goes alike with the program's. -/
theorem sim_crashed {Mj : Ag} {t : Nat} {c : Cfg} {m : Option Nat} {D : DataW Unit} {ns : List (List UInt8)} {log : List UInt8} {s : StD} (h : StOk t c D ns log s Mj) : Sim Mj.crashed (Rf.opened c m D ns s.rs s.dead) := by
  refine ⟨h.c.symm, h.ns.symm, ?_, h.dead.symm, rfl, ?_, ?_, fun d o l ho hl => ?_, fun p q r hq hr _ => ?_⟩
  · show (opened c s.rs).map (·.b) = Mj.bs
    rw [h.bs]
    simp [opened]
  · show ns.map (qOf D) = Mj.ns.map (qOf Mj.D)
    rw [h.ns, h.D]
  · show (List.replicate c.d.toNat _).length = (List.replicate Mj.c.d.toNat _).length
    rw [h.c]
    simp
  · have ho' : (List.replicate Mj.c.d.toNat (newL Mj.ns.length))[d]? = some o := ho
    have hl' : (List.replicate c.d.toNat (newL ns.length))[d]? = some l := hl
    have e1 : o = newL Mj.ns.length := (List.mem_replicate.1 (List.mem_of_getElem? ho')).2
    have e2 : l = newL ns.length := (List.mem_replicate.1 (List.mem_of_getElem? hl')).2
    rw [e1, e2, h.ns]
    exact ⟨rfl, rfl, rfl, (fun h => (by cases h)), rfl, rfl, rfl, rfl, rfl⟩
  · have hq' : (List.replicate Mj.bs.length (⟨0, Mj.c.ba⟩ : Ret))[p]? = some q := hq
    have e1 : q = ⟨0, Mj.c.ba⟩ := (List.mem_replicate.1 (List.mem_of_getElem? hq')).2
    have hr' : ((s.rs.map fun r => (⟨r.b, c.ba, 0⟩ : RBat)))[p]? = some r := hr
    rw [List.getElem?_map, Option.map_eq_some_iff] at hr'
    obtain ⟨r0, _, e2⟩ := hr'
    subst e1
    subst e2
    exact ⟨by rw [h.c], Or.inl rfl⟩

theorem flat_take {α : Type} (f : α → List Value) (m : Nat) (hf : ∀ x, (f x).length = m) : ∀ (l : List α) (k : Nat), (l.take k).flatMap f = (l.flatMap f).take (k * m)
  | [], k => by simp
  | x :: l, 0 => by simp
  | x :: l, k + 1 => by
    rw [List.take_succ_cons, List.flatMap_cons, List.flatMap_cons, flat_take f m hf l k, List.take_append, List.take_of_length_le (l := f x) (by rw [hf x, Nat.succ_mul]; omega), hf x, show (k + 1) * m - m = k * m by rw [Nat.succ_mul]; omega]
/-- The first ones of a row. -/
theorem RowAt.prefix {w : World} {L : Labs} {l : Lab} {e : TypeId} {size g n k cap : Nat} {xs : List Value} (h : RowAt w L l e size (.slice (some ⟨g, 0, none⟩) n cap) n xs) (hk : k ≤ n) : RowAt w L l e size (.slice (some ⟨g, 0, none⟩) k cap) k (xs.take (k * size)) := by
  obtain ⟨⟨h1, h2⟩, h3⟩ := h
  have hks : k * size ≤ n * size := Nat.mul_le_mul_right _ hk
  refine ⟨⟨by rw [List.length_take]; omega, ?_⟩, fun q hq => h3 q (by simpa [Value.ownBlock] using hq)⟩
  rcases h2 with ⟨e', _⟩ | ⟨g', cap', cur, e', q1, q2, q3, q4, q5, q6⟩
  · cases e'
  · simp only [Value.slice.injEq, true_and, Option.some.injEq, Addr.mk.injEq, and_true] at e'
    obtain ⟨rfl, rfl⟩ := e'
    exact Or.inr ⟨g, cap, cur, rfl, q1, q2, by omega, q4, q5, by rw [← q6, List.take_take, Nat.min_eq_left hks]⟩
/-- The labels behind a crash. -/
def crashLabs (L Lx L0 : Labs) (B i : Nat) : Labs := fun k => if k < B then L k else match Lx k with
  | some l => some l
  | none => match L0 k with
    | some (_, q) => some (2 * i + 2, q)
    | none => none

/-- Which stand is before the cut. -/
def AtOk (sts : List StD) (n k a : Nat) : Prop := (k = 0 → a = 0) ∧ (0 < k → a < k ∧ (∀ s, sts[a]? = some s → s.n ≤ n) ∧ ∀ j s, a < j → j < k → sts[j]? = some s → n < s.n)
theorem AtOk.next {sts : List StD} {n k a : Nat} (h : AtOk sts n k a) {s : StD} (hs : sts[k]? = some s) (hk0 : k = 0 → s.n ≤ n) : AtOk sts n (k + 1) (if s.n ≤ n then k else a) := by
  refine ⟨fun h => by omega, fun _ => ?_⟩
  by_cases hc : s.n ≤ n
  · rw [if_pos hc]
    exact ⟨by omega, fun x hx => by rw [hs] at hx; cases hx; exact hc, fun j x h1 h2 => by omega⟩
  · rw [if_neg hc]
    have hk : 0 < k := by rcases Nat.eq_zero_or_pos k with e | e; exact absurd (hk0 e) hc; exact e
    obtain ⟨q1, q2, q3⟩ := h.2 hk
    refine ⟨by omega, q2, fun j x h1 h2 hx => ?_⟩
    by_cases hj : j = k
    · subst hj; rw [hs] at hx; cases hx; omega
    · exact q3 j x h1 (by omega) hx

/-- What crashed leaves. -/
def CrashedTo (L : Labs) (i gp t : Nat) (M : Ag) (P : PD) (w : World) (e : Ending) (w' : World) : Prop := e = .returned (.bool true) ∧ ∃ L' sv' j s Mj, P.sts[j]? = some s ∧ StOk t P.c P.D M.ns M.log s Mj ∧ PairAt w' L' i gp t Mj.crashed (Rf.opened P.c P.m P.D M.ns s.rs s.dead) { P with lg := encStr (M.log.take s.n), sv := sv', sts := P.sts.take (j + 1) } ∧ Step (fun l => prP i l) L w L' w'

set_option maxRecDepth 100000 in
set_option maxHeartbeats 4000000 in
theorem crashed_core (A : Nat → Addr) (L : Labs) (i gp t : Nat) (M : Ag) (R : Rf) (P : PD) (cut : Int) (w : World) (hS : Sents.Holds w 260 gl 11 A) (hP : PairAt w L i gp t M R P) (hlg : P.lg = encStr M.log) (hst : Stands t P.c P.D M.ns M.log P.sts) (hc : M.c = P.c) (hD : M.D = P.D) (hso : M.ns.Pairwise (fun a b => a ≤ b)) (h0 : -9223372036854775808 ≤ cut) (h1 : cut ≤ 9223372036854775807) (hll : M.log.length ≤ 100000000000000) (hn : P.sts.length ≤ 8000000000) :
    Calls Tryz.prog 52 #[.pointer (some ⟨gp, 0, none⟩), .int .i64 cut] w fun e w' => CrashedTo L i gp t M P w e w' := by
  obtain ⟨gx, gy, hpb, hA, hR, hSim, hInv, hSt, hMp⟩ := hP
  obtain ⟨fs, hfl, hrow, hall⟩ := hSt
  obtain ⟨sa, sk, esv, hmx⟩ := hrow.shape
  have hpos := hst.pos
  rw [esv] at hrow
  obtain ⟨gs, esa, hgs, hgsl, hcs, _⟩ := hrow.head hpos
  subst esa
  have p13 : w.cell? ⟨gp, 13, none⟩ = some (.slice (some ⟨gs, 0, none⟩) P.sts.length sk) := by rw [← esv]; exact hpb.1.cell 13
  have p14 : w.cell? ⟨gp, 14, none⟩ = some (encStr M.log) := by rw [← hlg]; exact hpb.1.cell 14
  have hgpl := hpb.1.lt
  have hcap : P.sts.length ≤ sk := by
    rcases hrow.1.2 with ⟨e, _⟩ | ⟨g, cap, cur, e, _, _, q, _⟩
    · cases e
    · simp at e; omega
  have hcell : ∀ (j : Nat) (s : StD) (f : Value × Value), P.sts[j]? = some s → fs[j]? = some f → w.cell? ⟨gs, j * 3, none⟩ = some (.int .i64 (s.n : Int)) ∧ w.cell? ⟨gs, j * 3 + 1, none⟩ = some f.1 ∧ w.cell? ⟨gs, j * 3 + 2, none⟩ = some f.2 := fun j s f hs hf => by
    have hz : (P.sts.zip fs)[j]? = some (s, f) := by rw [List.getElem?_zip_eq_some]; exact ⟨hs, hf⟩
    have hfl3 := fun (x : Nat) (v : Value) (hx : x < 3) (hv : [Value.int .i64 (s.n : Int), f.1, f.2][x]? = some v) => hcs _ _ (flat_cell (fun p : StD × (Value × Value) => [Value.int .i64 (p.1.n : Int), p.2.1, p.2.2]) 3 (fun _ => rfl) hz hx hv)
    exact ⟨by have := hfl3 0 _ (by omega) rfl; simpa using this, hfl3 1 _ (by omega) rfl, hfl3 2 _ (by omega) rfl⟩
  obtain ⟨s0, hs0⟩ : ∃ s0, P.sts[0]? = some s0 := ⟨_, List.getElem?_eq_getElem hpos⟩
  obtain ⟨f0, hf0⟩ : ∃ f0, fs[0]? = some f0 := ⟨_, List.getElem?_eq_getElem (by omega)⟩
  have c0 : w.cell? ⟨gs, 0, none⟩ = some (.int .i64 (s0.n : Int)) := by have := (hcell 0 s0 f0 hs0 hf0).1; simpa using this
  obtain ⟨_, q0⟩ := hst.ok s0 (List.mem_of_getElem? hs0)
  have hs0l := q0.le
  obtain ⟨pk, hpk⟩ : ∃ pk, pickN cut (M.log.length - s0.n + 1) = pk := ⟨_, rfl⟩
  have hpk1 : pk ≤ M.log.length - s0.n := by have := pickN_lt cut (n := M.log.length - s0.n + 1) (by omega); omega
  have hPick := fun w => pick_any cut (M.log.length - s0.n + 1) w h0 h1 (by omega)
  rw [hpk, show ((M.log.length - s0.n + 1 : Nat) : Int) = (M.log.length : Int) - (s0.n : Int) + 1 by omega] at hPick
  have HPick := hide hPick
  have hlI : (M.log.length : Int) ≤ 140737488355328 := by omega
  have hsI : (s0.n : Int) ≤ (M.log.length : Int) := by omega
  have hpI : (pk : Int) ≤ (M.log.length : Int) := by omega
  have hMl : M.log.length ≤ maxLen := by unfold maxLen; omega
  have hpos' : (0 : Int) < (P.sts.length : Int) := by omega
  have HPb := hide hpb
  have HA := hide hA
  have HR := hide hR
  have HMp := hide hMp
  have HInv := hide hInv
  have HRow := hide hrow
  have HAll := hide hall
  have HCell := hide hcell
  have HSts := hide hst
  have Hs0 := hide hs0
  have Hfl := hide hfl
  have HS := hide hS
  have P13 := hide p13
  have P14 := hide p14
  clear hpb hA hR hSim hMp hInv hrow hall hcell hst hs0 hf0 hfl hS hcs q0 hpk hPick esv hlg
  go_enter Tryz.func52, Tryz.ntmps52
  go_upto_region 2 with fail
  go_quiet ((go_at_call 40; exact Calls.quiet_of_same (HPick.out _)))
  go_wp2_with fail
  generalize hV : World.drewN w _ = V
  have hBV : Below w.heap.size w V := by rw [← hV]; exact below_drewN (Below.refl _ _) _
  have HBV := hide hBV
  obtain ⟨n, hn'⟩ : ∃ n : Nat, n = M.log.length - pk := ⟨_, rfl⟩
  rw [show (M.log.length : Int) - (pk : Int) = (n : Int) by omega]
  have hnl : n ≤ M.log.length := by omega
  have hn0 : s0.n ≤ n := by omega
  clear hV hBV p13 p14 c0 hn'
  go_loopw [7, 8] (fun q7 q wr => ∃ k a : Nat, k ≤ P.sts.length ∧ q = .int .i64 k ∧ q7 = .int .i64 a ∧ AtOk P.sts n k a ∧ wr = V) (fun _ q _ => P.sts.length - (intOf q).toNat)
  case atStart => exact ⟨0, 0, Nat.zero_le _, rfl, rfl, ⟨fun _ => rfl, fun h => by omega⟩, rfl⟩
  case round =>
    obtain ⟨k, a, hk, rfl, rfl, hat, hwr⟩ := hrel
    have hwr' := hwr.symm
    subst hwr'
    have Hat := hide hat
    have d13 : V.cell? ⟨gp, 13, none⟩ = some (.slice (some ⟨gs, 0, none⟩) P.sts.length sk) := (HBV.out.cell (p := ⟨gp, 13, none⟩) hgpl).trans P13.out
    clear hwr hat
    by_cases hlt : k < P.sts.length
    · have hltI : (k : Int) < (P.sts.length : Int) := by omega
      obtain ⟨s, hs⟩ : ∃ s, P.sts[k]? = some s := ⟨_, List.getElem?_eq_getElem hlt⟩
      obtain ⟨f, hf⟩ : ∃ f, fs[k]? = some f := ⟨_, List.getElem?_eq_getElem (by rw [Hfl.out]; exact hlt)⟩
      have x0 : V.cell? ⟨gs, k * 3, none⟩ = some (.int .i64 (s.n : Int)) := (HBV.out.cell (p := ⟨gs, _, none⟩) hgs).trans (HCell.out k s f hs hf).1
      have HNx := hide (Hat.out.next hs (fun e => by subst e; have := Hs0.out; rw [hs] at this; cases this; exact hn0))
      generalize hsn : s.n = sn at *
      clear hs hf hsn
      by_cases hcn : sn ≤ n
      · have hcI : (sn : Int) ≤ (n : Int) := by omega
        have hcd : decide ((sn : Int) ≤ (n : Int)) = true := by simpa using hcI
        have HNy : Hid (AtOk P.sts n (k + 1) k) := by have := HNx.out; rw [if_pos hcn] at this; exact this
        go_wp2_with fail
        go_roundw
        case rel => exact ⟨k + 1, k, by omega, by go_num, rfl, HNy.out, trivial⟩
        case measure => simp [intOf]; omega
      · have hcI : ¬ (sn : Int) ≤ (n : Int) := by omega
        have hcd : decide ((sn : Int) ≤ (n : Int)) = false := by simpa using hcI
        have HNy : Hid (AtOk P.sts n (k + 1) a) := by have := HNx.out; rw [if_neg hcn] at this; exact this
        go_wp2_with fail
        go_roundw
        case rel => exact ⟨k + 1, a, by omega, by go_num, rfl, HNy.out, trivial⟩
        case measure => simp [intOf]; omega
    · have hkl : P.sts.length = k := by omega
      obtain ⟨ha1, ha2, ha3⟩ := Hat.out.2 (by omega)
      have hal : a < P.sts.length := by omega
      have haI : (a : Int) < (P.sts.length : Int) := by omega
      obtain ⟨s, hs⟩ : ∃ s, P.sts[a]? = some s := ⟨_, List.getElem?_eq_getElem hal⟩
      obtain ⟨f, hf⟩ : ∃ f, fs[a]? = some f := ⟨_, List.getElem?_eq_getElem (by rw [Hfl.out]; exact hal)⟩
      obtain ⟨⟨ba, bk, ef1, hrb⟩, da, dk, ef2, hrd, hdn⟩ := HAll.out a s f hs hf
      obtain ⟨f1, f2⟩ := f
      dsimp only at ef1 ef2
      subst ef1
      subst ef2
      obtain ⟨y0, y1, y2⟩ := HCell.out a s _ hs hf
      have x0 : V.cell? ⟨gs, a * 3, none⟩ = some (.int .i64 (s.n : Int)) := (HBV.out.cell (p := ⟨gs, _, none⟩) hgs).trans y0
      have x1 : V.cell? ⟨gs, a * 3 + 1, none⟩ = some (.slice ba s.rs.length bk) := (HBV.out.cell (p := ⟨gs, _, none⟩) hgs).trans y1
      have x2 : V.cell? ⟨gs, a * 3 + 2, none⟩ = some (.slice da s.dead.length dk) := (HBV.out.cell (p := ⟨gs, _, none⟩) hgs).trans y2
      obtain ⟨Mj, hMj⟩ := HSts.out.ok s (List.mem_of_getElem? hs)
      have hsn : s.n ≤ n := ha2 s hs
      have hsl : s.n ≤ M.log.length := hMj.le
      have HCut := hide (fun res (hr : Replays (Ag.new P.c P.D M.ns) 0 (M.log.take n) res) => HSts.out.cut hs hsn hnl (fun s' hs' => ha3 (a + 1) s' (by omega) (by have := (List.getElem?_eq_some_iff.1 hs').1; omega) hs') hMj hr)
      have hgood : GoodC P.c P.D := by have := HInv.out.good; rw [hc, hD] at this; exact this
      have hpmM : M.ns.Perm (strKeys P.D) := by have := HInv.out.pm; rw [hD] at this; exact this
      have hrs120 : s.rs.length ≤ 120 := by have h1 := hMj.inv.b120; rw [hMj.bs, List.length_map] at h1; exact h1
      have hdd120 : s.dead.length ≤ 120 := by have h1 := hMj.inv.dead_le; rw [hMj.dead] at h1; exact h1
      have HMj := hide hMj
      have Hs := hide hs
      have Hrb := hide hrb
      have Hrd := hide hrd
      have Hdn := hide hdn
      have Hf := hide hf
      have Hgood := hide hgood
      have Hpm := hide hpmM
      clear hs hf hrb hrd hdn hMj y0 y1 y2 ha1 ha2 ha3 hgood hpmM Hat
      go_upto_region 10 with fail
      generalize hV1 : World.alloc V _ = V1
      have hb1 : Below w.heap.size w V1 := by rw [← hV1]; exact HBV.out.alloc HBV.out.size _
      have hKb : Blk V1 V.heap.size #[.int .i64 (s.n : Int), .slice ba s.rs.length bk, .slice da s.dead.length dk] 105 := by rw [← hV1]; exact Blk.new V _ _
      have hz1 : w.heap.size ≤ V.heap.size := HBV.out.size
      obtain ⟨sb, hsb⟩ : ∃ sb, V.heap.size = sb := ⟨_, rfl⟩
      rw [hsb] at hKb ⊢
      have hsbl := hKb.lt
      have HB1 := hide hb1
      have HKb := hide hKb
      have hexn : (ByteArray.mk M.log.toArray).extract 0 n = ByteArray.mk (M.log.take n).toArray := by have := enc_take M.log n; simpa [encStr] using this
      have HCf : Hid (∀ W, Below V1.heap.size V1 W → (W.cell? ⟨gp, 2, none⟩ = some (.int .i64 P.c.d) ∧ W.cell? ⟨gp, 2 + 1, none⟩ = some (.map (P.m)) ∧ W.cell? ⟨gp, 2 + 2, none⟩ = some (.int .i64 P.c.q) ∧ W.cell? ⟨gp, 2 + 3, none⟩ = some (.int .i64 P.c.at') ∧ W.cell? ⟨gp, 2 + 4, none⟩ = some (.int .i64 P.c.ba) ∧ W.cell? ⟨gp, 2 + 5, none⟩ = some (.int .i64 P.c.ca) ∧ W.cell? ⟨gp, 2 + 6, none⟩ = some (.int .i64 P.c.ti) ∧ W.cell? ⟨gp, 2 + 7, none⟩ = some (.int .i64 P.c.wi) ∧ W.cell? ⟨gp, 2 + 8, none⟩ = some (.int .i64 P.c.le) ∧ W.cell? ⟨gp, 2 + 9, none⟩ = some (.float .f64 P.c.th) ∧ W.cell? ⟨gp, 2 + 10, none⟩ = some (.int .i64 P.c.op)) ∧ W.cell? ⟨gp, 14, none⟩ = some (encStr M.log)) := fun W hb => by
        have hbw : Below w.heap.size w W := HB1.out.trans (hb.mono HB1.out.size)
        have k := HPb.out.1.below hbw hgpl
        refine ⟨⟨k.cell 2, k.cell 3, k.cell 4, k.cell 5, k.cell 6, k.cell 7, k.cell 8, k.cell 9, k.cell 10, k.cell 11, k.cell 12⟩, ?_⟩
        exact (hbw.cell (p := ⟨gp, 14, none⟩) hgpl).trans P14.out
      have HOp : Hid (∀ W, Below V1.heap.size V1 W → Calls Tryz.prog 26 #[P.c.val P.m, encStr (M.log.take n)] W fun e w' => ∃ gx2 Lx, e = .returned (.tuple #[.pointer (some ⟨gx2, 0, none⟩), .nilIface]) ∧ AgentAt w' Lx (2 * i + 1) gx2 Mj.crashed ∧ V1.heap.size ≤ gx2 ∧ (∀ k, k < V1.heap.size → Lx k = none) ∧ (∀ k, w'.heap.size ≤ k → Lx k = none) ∧ Below V1.heap.size V1 w') := fun W hb => by
        have hbw : Below w.heap.size w W := HB1.out.trans (hb.mono HB1.out.size)
        have hmap : MapAt W P.m P.D := (HMp.out.keep (Step.of_below (p := fun _ => False) hbw) (fun h => h)).1
        refine (open_log A (2 * i + 1) P.c P.m P.D (M.log.take n) W (HS.out.below hbw) hmap Hgood.out (by rw [List.length_take]; omega)).mono ?_
        rintro e w' ⟨ns, res, r1, r2, r3, r4, r5, r6⟩
        obtain rfl : ns = M.ns := sorted_names r1 Hpm.out r2 hso
        have e1 := HCut.out res r3
        obtain ⟨gx2, Lx, q1, q2, q3, q4, q5⟩ := r6 _ _ e1
        refine ⟨gx2, Lx, q1, ?_, by have := hb.size; omega, fun k hk => q4 k (by have := hb.size; omega), q5, hb.trans (r4.mono hb.size)⟩
        have e2 : (M.log.take n).take s.n = Mj.log := by rw [List.take_take, Nat.min_eq_left hsn, HMj.out.log]
        rw [e2] at q2
        exact q2
      have hgp1 : gp < V1.heap.size := by have := hb1.size; omega
      unfold Cfg.val at HOp
      clear hV1 hb1 hKb d13 x0 x1 x2
      go_cut [10, 11] (fun s10 s11 wx => ∃ gx2 Lx, s10 = .pointer (some ⟨gx2, 0, none⟩) ∧ s11 = .nilIface ∧ AgentAt wx Lx (2 * i + 1) gx2 Mj.crashed ∧ V1.heap.size ≤ gx2 ∧ (∀ k, k < V1.heap.size → Lx k = none) ∧ (∀ k, wx.heap.size ≤ k → Lx k = none) ∧ Below V1.heap.size V1 wx)
      case first =>
        go_region_held3 (fun w' => (w'.cell? ⟨gp, 2, none⟩ = some (.int .i64 P.c.d) ∧ w'.cell? ⟨gp, 2 + 1, none⟩ = some (.map (P.m)) ∧ w'.cell? ⟨gp, 2 + 2, none⟩ = some (.int .i64 P.c.q) ∧ w'.cell? ⟨gp, 2 + 3, none⟩ = some (.int .i64 P.c.at') ∧ w'.cell? ⟨gp, 2 + 4, none⟩ = some (.int .i64 P.c.ba) ∧ w'.cell? ⟨gp, 2 + 5, none⟩ = some (.int .i64 P.c.ca) ∧ w'.cell? ⟨gp, 2 + 6, none⟩ = some (.int .i64 P.c.ti) ∧ w'.cell? ⟨gp, 2 + 7, none⟩ = some (.int .i64 P.c.wi) ∧ w'.cell? ⟨gp, 2 + 8, none⟩ = some (.int .i64 P.c.le) ∧ w'.cell? ⟨gp, 2 + 9, none⟩ = some (.float .f64 P.c.th) ∧ w'.cell? ⟨gp, 2 + 10, none⟩ = some (.int .i64 P.c.op)) ∧ w'.cell? ⟨gp, 14, none⟩ = some (encStr M.log)) (exact HCf.out _ (by first | exact (Below.refl _ V1).drew | exact HBo.out))
          (first | (go_at_call 26; refine (HOp.out _ (Below.refl _ V1).drew).mono ?_; rintro e w2 ⟨gx2, Lx, rfl, r2, r3, r4, r5, r6⟩; have HBo := hide r6; have Hr2 := hide r2; have Hr4 := hide r4; have Hr5 := hide r5; clear r2 r4 r5 r6))
        all_goals (go_wp2_with fail; go_meet; exact ⟨gx2, Lx, rfl, rfl, Hr2.out, r3, Hr4.out, Hr5.out, HBo.out⟩)
      case rest =>
      obtain ⟨gx2, Lx, rfl, rfl, hA2, hgx2, hLx0, hLx1, hb2⟩ := hcut
      generalize hwc : wc = W2 at *
      have hz2 := hb2.size
      have k2 := HPb.out.1.below (HB1.out.trans (hb2.mono HB1.out.size)) hgpl
      have z0 : W2.cell? ⟨gp, 0, none⟩ = some (.pointer (some ⟨gx, 0, none⟩)) := k2.cell 0
      have g0 : W2.frozen? ⟨gp, 0, none⟩ = false := k2.frozen 0
      have hgp2 : gp < W2.heap.size := by omega
      have HK2 := hide k2
      have HA2 := hide hA2
      have HLx0 := hide hLx0
      have HLx1 := hide hLx1
      have HB2 := hide hb2
      clear hwc k2 hA2 hLx0 hLx1 hb2 HOp
      go_upto_region 14 with fail
      generalize hW3 : World.setCell W2 _ _ = W3
      have hW3' : W2.setCell ⟨gp, 0, none⟩ (.pointer (some ⟨gx2, 0, none⟩)) = W3 := hW3
      have hK3 : Blk W3 gp (prCells gx2 gy P.c P.m P.sv P.lg) 102 := by
        have := HK2.out.set 0 (.pointer (some ⟨gx2, 0, none⟩))
        rw [hW3'] at this
        exact this
      have ho3 : ∀ k, k ≠ gp → W3.heap[k]? = W2.heap[k]? := fun k hk => by rw [← hW3']; exact heap_setCell_other _ _ _ _ hk
      have hz3 : W3.heap.size = W2.heap.size := by rw [← hW3']; simp [World.setCell]
      have hgp3 := hK3.lt
      have hgpn : ∀ k l, L k = l → l ≠ bl 8 i → k ≠ gp := fun k l h1 h2 e => by rw [e, HPb.out.2] at h1; exact h2 h1.symm
      -- what lay in w, but the pair's block
      have hold : ∀ k, k < w.heap.size → k ≠ gp → W3.heap[k]? = w.heap[k]? := fun k hk hne => by rw [ho3 k hne, HB2.out.block k (by have := HB1.out.size; omega), HB1.out.block k hk]
      have hMap3 : MapAt W3 P.m P.D := by
        rcases HMp.out with ⟨q | ⟨b, n', e1, e2, e3⟩, hl⟩
        · exact Or.inl q
        · exact Or.inr ⟨b, n', e1, ownsMap_of_block e2 (hold b e2.lt (hgpn b none (hl b e1) (by simp [bl]))), e3⟩
      have hrs3 : W3.ownsRow 0 112 8 (.slice ba s.rs.length bk) s.rs.length (s.rs.flatMap RBat.cells) := ownsRow_same Hrb.out.1 (fun g hg => hold g (Hrb.out.1.lt g hg).2 (hgpn g _ (Hrb.out.2 g hg) (by simp [bl]))) (Nat.le_refl _)
      have hrd3 : W3.ownsRow 0 3 1 (.slice da s.dead.length dk) s.dead.length (ints s.dead) := ownsRow_same Hrd.out.1 (fun g hg => hold g (Hrd.out.1.lt g hg).2 (hgpn g _ (Hrd.out.2 g hg) (by simp [bl]))) (Nat.le_refl _)
      have hdd := Cfg.num_d Hgood.out.1
      have HRO : Hid (∀ W, Below W3.heap.size W3 W → Calls Tryz.prog 43 #[P.c.val P.m, .slice ba s.rs.length bk, .slice da s.dead.length dk] W fun e w' => ∃ gy2 L0, e = .returned (.pointer (some ⟨gy2, 0, none⟩)) ∧ RefAt w' L0 0 gy2 (Rf.opened P.c P.m P.D M.ns s.rs s.dead) ∧ (∀ k l, L0 k = some l → W3.heap.size ≤ k ∧ k < w'.heap.size) ∧ Below W3.heap.size W3 w') := fun W hb => by
        have hm : MapAt W P.m P.D := hMap3.below hb (Nat.le_refl _)
        refine (refOpenG_any P.c P.m P.D ba da s.rs.length bk s.dead.length dk s.rs s.dead W hm hdd.1 hdd.2 (ownsRow_same hrs3 (fun g hg => hb.block g (hrs3.lt g hg).2) (Nat.le_refl _)) rfl hrs120 (ownsRow_same hrd3 (fun g hg => hb.block g (hrd3.lt g hg).2) (Nat.le_refl _)) hdd120 Hdn.out).mono ?_
        rintro e w' ⟨g, ss, L0, q1, q2, q3, q4, q5, q6⟩
        obtain rfl : ss = M.ns := sorted_names q4 Hpm.out q5 hso
        exact ⟨g, L0, q1, q2, fun k l hk => by have := q3 k l hk; have := hb.size; omega, hb.trans (q6.mono hb.size)⟩
      have hKb3 : Blk W3 sb #[.int .i64 (s.n : Int), .slice ba s.rs.length bk, .slice da s.dead.length dk] 105 := by
        have h1 := HKb.out.below HB2.out hsbl
        unfold Blk
        rw [ho3 sb (by omega)]
        exact h1
      have HK3 := hide hK3
      have HKb3 := hide hKb3
      have Ho3 := hide ho3
      have Hold := hide hold
      have HCg : Hid (∀ W, Below W3.heap.size W3 W → (W.cell? ⟨gp, 2, none⟩ = some (.int .i64 P.c.d) ∧ W.cell? ⟨gp, 2 + 1, none⟩ = some (.map (P.m)) ∧ W.cell? ⟨gp, 2 + 2, none⟩ = some (.int .i64 P.c.q) ∧ W.cell? ⟨gp, 2 + 3, none⟩ = some (.int .i64 P.c.at') ∧ W.cell? ⟨gp, 2 + 4, none⟩ = some (.int .i64 P.c.ba) ∧ W.cell? ⟨gp, 2 + 5, none⟩ = some (.int .i64 P.c.ca) ∧ W.cell? ⟨gp, 2 + 6, none⟩ = some (.int .i64 P.c.ti) ∧ W.cell? ⟨gp, 2 + 7, none⟩ = some (.int .i64 P.c.wi) ∧ W.cell? ⟨gp, 2 + 8, none⟩ = some (.int .i64 P.c.le) ∧ W.cell? ⟨gp, 2 + 9, none⟩ = some (.float .f64 P.c.th) ∧ W.cell? ⟨gp, 2 + 10, none⟩ = some (.int .i64 P.c.op)) ∧ W.cell? ⟨sb, 1, none⟩ = some (.slice ba s.rs.length bk) ∧ W.cell? ⟨sb, 2, none⟩ = some (.slice da s.dead.length dk)) := fun W hb => by
        have k := HK3.out.below hb hgp3
        have kb := HKb3.out.below hb HKb3.out.lt
        exact ⟨⟨k.cell 2, k.cell 3, k.cell 4, k.cell 5, k.cell 6, k.cell 7, k.cell 8, k.cell 9, k.cell 10, k.cell 11, k.cell 12⟩, kb.cell 1, kb.cell 2⟩
      have hsbg : sb ≠ gp := by omega
      have HCh : Hid (∀ W v, Below W3.heap.size W3 W → ((W.setCell ⟨gp, 1, none⟩ v).cell? ⟨gp, 2, none⟩ = some (.int .i64 P.c.d) ∧ (W.setCell ⟨gp, 1, none⟩ v).cell? ⟨gp, 2 + 1, none⟩ = some (.map (P.m)) ∧ (W.setCell ⟨gp, 1, none⟩ v).cell? ⟨gp, 2 + 2, none⟩ = some (.int .i64 P.c.q) ∧ (W.setCell ⟨gp, 1, none⟩ v).cell? ⟨gp, 2 + 3, none⟩ = some (.int .i64 P.c.at') ∧ (W.setCell ⟨gp, 1, none⟩ v).cell? ⟨gp, 2 + 4, none⟩ = some (.int .i64 P.c.ba) ∧ (W.setCell ⟨gp, 1, none⟩ v).cell? ⟨gp, 2 + 5, none⟩ = some (.int .i64 P.c.ca) ∧ (W.setCell ⟨gp, 1, none⟩ v).cell? ⟨gp, 2 + 6, none⟩ = some (.int .i64 P.c.ti) ∧ (W.setCell ⟨gp, 1, none⟩ v).cell? ⟨gp, 2 + 7, none⟩ = some (.int .i64 P.c.wi) ∧ (W.setCell ⟨gp, 1, none⟩ v).cell? ⟨gp, 2 + 8, none⟩ = some (.int .i64 P.c.le) ∧ (W.setCell ⟨gp, 1, none⟩ v).cell? ⟨gp, 2 + 9, none⟩ = some (.float .f64 P.c.th) ∧ (W.setCell ⟨gp, 1, none⟩ v).cell? ⟨gp, 2 + 10, none⟩ = some (.int .i64 P.c.op)) ∧ (W.setCell ⟨gp, 1, none⟩ v).cell? ⟨sb, 1, none⟩ = some (.slice ba s.rs.length bk) ∧ (W.setCell ⟨gp, 1, none⟩ v).cell? ⟨sb, 2, none⟩ = some (.slice da s.dead.length dk)) := fun W v hb => by
        have k := (HK3.out.below hb hgp3).set 1 v
        have kb := (HKb3.out.below hb HKb3.out.lt).other ⟨gp, 1, none⟩ v hsbg
        exact ⟨⟨k.cell 2, k.cell 3, k.cell 4, k.cell 5, k.cell 6, k.cell 7, k.cell 8, k.cell 9, k.cell 10, k.cell 11, k.cell 12⟩, kb.cell 1, kb.cell 2⟩
      have HSt3 : Hid (Step (fun l => l = bl 8 i) L W2 L W3) := by show Step _ _ _ _ _; rw [← hW3']; exact Step.setCell L W2 ⟨gp, 0, none⟩ _ HPb.out.2
      have HSx3 : Hid (Step (fun l => l = none) Lx W2 Lx W3) := by show Step _ _ _ _ _; rw [← hW3']; exact Step.setCell Lx W2 ⟨gp, 0, none⟩ _ (HLx0.out gp hgp1)
      unfold Cfg.val at HRO
      clear hW3 hW3' hK3 ho3 hold hMap3 hrs3 hrd3 hKb3 hgpn z0 g0
      go_cut [] (fun wx => ∃ gy2 L0 W4, RefAt W4 L0 0 gy2 (Rf.opened P.c P.m P.D M.ns s.rs s.dead) ∧ (∀ k l, L0 k = some l → W3.heap.size ≤ k ∧ k < W4.heap.size) ∧ Below W3.heap.size W3 W4 ∧ wx = W4.setCell ⟨gp, 1, none⟩ (.pointer (some ⟨gy2, 0, none⟩)))
      case first =>
        go_region_held3 (fun w' => (w'.cell? ⟨gp, 2, none⟩ = some (.int .i64 P.c.d) ∧ w'.cell? ⟨gp, 2 + 1, none⟩ = some (.map (P.m)) ∧ w'.cell? ⟨gp, 2 + 2, none⟩ = some (.int .i64 P.c.q) ∧ w'.cell? ⟨gp, 2 + 3, none⟩ = some (.int .i64 P.c.at') ∧ w'.cell? ⟨gp, 2 + 4, none⟩ = some (.int .i64 P.c.ba) ∧ w'.cell? ⟨gp, 2 + 5, none⟩ = some (.int .i64 P.c.ca) ∧ w'.cell? ⟨gp, 2 + 6, none⟩ = some (.int .i64 P.c.ti) ∧ w'.cell? ⟨gp, 2 + 7, none⟩ = some (.int .i64 P.c.wi) ∧ w'.cell? ⟨gp, 2 + 8, none⟩ = some (.int .i64 P.c.le) ∧ w'.cell? ⟨gp, 2 + 9, none⟩ = some (.float .f64 P.c.th) ∧ w'.cell? ⟨gp, 2 + 10, none⟩ = some (.int .i64 P.c.op)) ∧ w'.cell? ⟨sb, 1, none⟩ = some (.slice ba s.rs.length bk) ∧ w'.cell? ⟨sb, 2, none⟩ = some (.slice da s.dead.length dk)) (first | exact HCg.out _ (Below.refl _ W3).drew | exact HCg.out _ HBo.out | exact HCh.out _ _ HBo.out)
          (first | (go_at_call 43; refine (HRO.out _ (Below.refl _ W3).drew).mono ?_; rintro e w4 ⟨gy2, L0, rfl, r2, r3, r6⟩; have HBo := hide r6; have Hr2 := hide r2; have Hr3 := hide r3; have kk := HK3.out.below r6 hgp3; have c1 := kk.cell 1; have e1 := kk.frozen 1; clear r2 r3 r6 kk))
        all_goals (go_wp2_with fail; go_meet; exact ⟨gy2, L0, w4, Hr2.out, Hr3.out, HBo.out, rfl⟩)
      case rest =>
      obtain ⟨gy2, L0, W4, hR4, hL0, hb4, hwx⟩ := hcut
      generalize hwc : wc = W5 at *
      have hz4 := hb4.size
      have hW5 : W5 = W4.setCell ⟨gp, 1, none⟩ (.pointer (some ⟨gy2, 0, none⟩)) := hwx
      have hK5 : Blk W5 gp (prCells gx2 gy2 P.c P.m P.sv P.lg) 102 := by
        rw [hW5]
        exact (HK3.out.below hb4 hgp3).set 1 _
      have hPlg : P.lg = encStr M.log := by
        have h1 := HPb.out.1.cell 14
        rw [P14.out] at h1
        simpa using h1.symm
      rw [hPlg] at hK5
      have hL0g : L0 gp = none := by
        cases e : L0 gp with
        | none => rfl
        | some l => have := (hL0 gp l e).1; omega
      have hS5L : Step (fun l => l = bl 8 i) L w L W5 := by
        refine (((Step.of_below HB1.out).trans (Step.of_below HB2.out)).trans HSt3.out).trans ((Step.of_below hb4).trans ?_)
        rw [hW5]
        exact Step.setCell L W4 ⟨gp, 1, none⟩ _ HPb.out.2
      have hS5x : Step (fun l => l = none) Lx W2 Lx W5 := by
        refine HSx3.out.trans ((Step.of_below hb4).trans ?_)
        rw [hW5]
        exact Step.setCell Lx W4 ⟨gp, 1, none⟩ _ (HLx0.out gp hgp1)
      have hS50 : Step (fun l => l = none) L0 W4 L0 W5 := by
        rw [hW5]
        exact Step.setCell L0 W4 ⟨gp, 1, none⟩ _ hL0g
      have hA5 : AgentAt W5 Lx (2 * i + 1) gx2 Mj.crashed := HA2.out.keep hS5x (fun q e => by cases e)
      have hR5 : RefAt W5 L0 0 gy2 (Rf.opened P.c P.m P.D M.ns s.rs s.dead) := hR4.keep hS50 (fun q e => by cases e)
      have hMl2 : Mj.crashed.log = Mj.log := rfl
      have HLog := hide (log_any Lx (2 * i + 1) gx2 Mj.crashed W5 hA5)
      rw [hMl2] at HLog
      have hKb5 : Blk W5 sb #[.int .i64 (s.n : Int), .slice ba s.rs.length bk, .slice da s.dead.length dk] 105 := by
        rw [hW5]
        exact (HKb3.out.below hb4 HKb3.out.lt).other ⟨gp, 1, none⟩ _ hsbg
      have v14 : W5.cell? ⟨gp, 14, none⟩ = some (encStr M.log) := hK5.cell 14
      have v13 : W5.cell? ⟨gp, 13, none⟩ = some (.slice (some ⟨gs, 0, none⟩) P.sts.length sk) := by
        have h1 := HPb.out.1.cell 13
        rw [P13.out] at h1
        have h2 : P.sv = .slice (some ⟨gs, 0, none⟩) P.sts.length sk := by simpa using h1.symm
        rw [← h2]
        exact hK5.cell 13
      have g14 : W5.frozen? ⟨gp, 14, none⟩ = false := hK5.frozen 14
      have g13 : W5.frozen? ⟨gp, 13, none⟩ = false := hK5.frozen 13
      have vb : W5.cell? ⟨sb, 0, none⟩ = some (.int .i64 (s.n : Int)) := hKb5.cell 0
      have hgp5 := hK5.lt
      have hsb5 := hKb5.lt
      have hexs : (ByteArray.mk M.log.toArray).extract 0 s.n = ByteArray.mk Mj.log.toArray := by
        have := enc_take M.log s.n
        rw [← HMj.out.log] at this
        simpa [encStr] using this
      have hslI : (s.n : Int) ≤ (M.log.length : Int) := by omega
      have haI1 : (a : Int) + 1 ≤ (sk : Int) := by omega
      have haI0 : (0 : Int) ≤ (a : Int) + 1 := by omega
      have HK5 := hide hK5
      have HA5 := hide hA5
      have HR5 := hide hR5
      have HL0 := hide hL0
      have HS5L := hide hS5L
      have hz5 : W4.heap.size = W5.heap.size := by rw [hW5]; simp [World.setCell]
      have hz35 : W3.heap.size = W2.heap.size := hz3
      clear hwc hwx hW5 hK5 hR4 hL0 hb4 hS5L hS5x hS50 hA5 hR5 hKb5 HRO HCg HCh hexn HCf
      go_wp2_with fail
      refine HLog.out.mono ?_
      rintro e w6 ⟨rfl, hw6⟩
      have hw6' := hw6.symm
      subst hw6'
      clear hw6
      go_wp2_with fail
      go_quiet (fail)
      go_wp2_with fail
      go_ret
      generalize hZ : World.setCell (World.setCell (World.drewN W5 _) _ _) _ _ = Z
      have hZ' : ((W5.drewN nq).setCell ⟨gp, 14, none⟩ (encStr Mj.log)).setCell ⟨gp, 13, none⟩ (.slice (some ⟨gs, 0, none⟩) (a + 1) sk) = Z := hZ
      have hKZ : Blk Z gp (prCells gx2 gy2 P.c P.m (.slice (some ⟨gs, 0, none⟩) (a + 1) sk) (encStr Mj.log)) 102 := by
        have := (Blk.set (w := W5.drewN nq) HK5.out 14 (encStr Mj.log)).set 13 (.slice (some ⟨gs, 0, none⟩) (a + 1) sk)
        rw [prCells_set14, prCells_set13, hZ'] at this
        exact this
      have stp : ∀ (Lz : Labs) (p : Lab → Prop), p (Lz gp) → Step p Lz W5 Lz Z := fun Lz p hp => by
        rw [← hZ']
        exact ((Step.drewN Lz W5 nq).trans (Step.setCell Lz _ ⟨gp, 14, none⟩ _ hp)).trans (Step.setCell Lz _ ⟨gp, 13, none⟩ _ hp)
      have hL0g' : L0 gp = none := hL0g
      have hAZ := HA5.out.keep (stp Lx (fun l => l = none) (HLx0.out gp hgp1)) (fun q e => by cases e)
      have hRZ := HR5.out.keep (stp L0 (fun l => l = none) hL0g') (fun q e => by cases e)
      have hwV1 : w.heap.size ≤ V1.heap.size := HB1.out.size
      have hlab : ∀ k, k < w.heap.size → crashLabs L Lx L0 V1.heap.size i k = L k := fun k hk => by
        simp only [crashLabs]
        rw [if_pos (by omega)]
      have sL : Step (fun l => l = bl 8 i) L w L Z := HS5L.out.trans (stp L (fun l => l = bl 8 i) HPb.out.2)
      have sF : Step (fun l => l = bl 8 i) L w (crashLabs L Lx L0 V1.heap.size i) Z := ⟨sL.os, sL.tape, sL.output, sL.size, hlab, sL.block⟩
      have hMjl : Mj.log = M.log.take s.n := HMj.out.log
      refine ⟨rfl, crashLabs L Lx L0 V1.heap.size i, .slice (some ⟨gs, 0, none⟩) (a + 1) sk, a, s, Mj, Hs.out, HMj.out, ⟨gx2, gy2, ⟨?_, ?_⟩, hAZ.shift (fun k q hk => ?_), hRZ.shift (fun k q hk => ?_), sim_crashed HMj.out, HMj.out.inv.crashed, ?_, HMp.out.keep sF (by simp [bl])⟩, sF.mono (fun l h => Or.inl h)⟩
      · rw [← hMjl]
        exact hKZ
      · rw [hlab gp hgpl]
        exact HPb.out.2
      · have hkB : ¬ k < V1.heap.size := fun h => by rw [HLx0.out k h] at hk; cases hk
        simp only [crashLabs]
        rw [if_neg hkB, hk]
      · have h1 := HL0.out k _ hk
        simp only [crashLabs]
        rw [if_neg (by omega), HLx1.out k (by omega), hk]
      · have hrz := (HRow.out.keep sF (by simp [bl])).prefix (k := a + 1) (by omega)
        refine ⟨fs.take (a + 1), by rw [List.length_take, List.length_take, Hfl.out], ?_, fun j x f hx hf => ?_⟩
        · have e : ((P.sts.take (a + 1)).zip (fs.take (a + 1))).flatMap (fun p => [Value.int .i64 (p.1.n : Int), p.2.1, p.2.2]) = ((P.sts.zip fs).flatMap fun p => [.int .i64 (p.1.n : Int), p.2.1, p.2.2]).take ((a + 1) * 3) := by
            rw [← flat_take (fun p : StD × (Value × Value) => [Value.int .i64 (p.1.n : Int), p.2.1, p.2.2]) 3 (fun _ => rfl), List.zip_eq_zipWith, List.zip_eq_zipWith, List.take_zipWith]
          show RowAt Z _ (bl 9 i) 105 3 _ (P.sts.take (a + 1)).length _
          rw [e, List.length_take, Nat.min_eq_left (by omega)]
          exact hrz
        · have hj := (List.getElem?_eq_some_iff.1 hx).1
          rw [List.length_take] at hj
          have hx' : (P.sts.take (a + 1))[j]? = some x := hx
          rw [List.getElem?_take_of_lt (by omega)] at hx' hf
          obtain ⟨⟨b1, b2, r1, r2⟩, d1, d2, r3, r4, r5⟩ := HAll.out j x f hx' hf
          exact ⟨⟨b1, b2, r1, r2.keep sF (by simp [bl])⟩, d1, d2, r3, r4.keep sF (by simp [bl]), r5⟩
end Go.Proofs.YtojpjaifhjigfaaGreatDoor

/- What holds of each pair between the steps: its stands; the world with one pair turned. -/
namespace Go.Proofs.YtojpjaifhjigfaaGreatDoor
open Go.RowKit Go.Maps

/-- What holds of a pair, besides what lies in memory. -/
structure PExt (t : Nat) (M : Ag) (P : PD) : Prop where
  c : M.c = P.c
  D : M.D = P.D
  so : M.ns.Pairwise (fun a b => a ≤ b)
  lg : P.lg = encStr M.log
  st : Stands t P.c P.D M.ns M.log P.sts
  li : LInv M
  id : IdsOk M.bs
  len : P.sts.length ≤ 1 + t
theorem PExt.more {t t' : Nat} {M : Ag} {P : PD} (h : PExt t M P) (ht : t ≤ t') : PExt t' M P := ⟨h.c, h.D, h.so, h.lg, h.st.more ht, h.li, h.id, by have := h.len; omega⟩

/-- Behind stood. -/
theorem PExt.stood {t t' : Nat} {M M' : Ag} {R' : Rf} {P : PD} {ch : Bool} (h : PExt t M P) (hg : Grew M M') (hi : Inv M' t') (hl : LInv M') (hid : IdsOk M'.bs) (ht : t + 1 ≤ t') (hs : Sim M' R') (hch : ch = (lastsOf M'.bs != lastsOf M.bs)) (sv : Value) : PExt t' M' (P.stood M' R' ch sv) ∧ ∃ ext, M'.log = M.log ++ ext ∧ (ch = true ↔ ext ≠ []) := by
  obtain ⟨g1, g2, g3, g4⟩ := hg
  rcases g4 with ⟨q1, q2, q3⟩ | ⟨es, e1, e2, e3, e4⟩
  · have hc : ch = false := by rw [hch, q1]; simp
    subst hc
    refine ⟨⟨g1.trans h.c, g2.trans h.D, by rw [g3]; exact h.so, rfl, ?_, hl, hid, ?_⟩, [], by simp [q3], by simp⟩
    · show Stands t' P.c P.D M'.ns M'.log P.sts
      rw [g3, q3]
      exact h.st.more (by omega)
    · have := h.len; show P.sts.length ≤ 1 + t'; omega
  · have hc : ch = true := by
      rw [hch]
      simp only [bne_iff_ne, ne_eq]
      omega
    subst hc
    have hne : recB 43 es ≠ [] := by unfold recB; rw [if_neg e1]; simp
    refine ⟨⟨g1.trans h.c, g2.trans h.D, by rw [g3]; exact h.so, rfl, ?_, hl, hid, ?_⟩, recB 43 es, e3, by simp [hne]⟩
    · show Stands t' P.c P.D M'.ns M'.log (P.sts ++ [⟨M'.log.length, R'.rs, R'.dead⟩])
      have h1 := (h.st.more (show t ≤ t' by omega))
      rw [← g3] at h1
      refine h1.snoc e1 e2 rfl e3 ⟨hi, hl, hid, ?_, Nat.le_refl _, ?_, hs.dead.symm, g1.trans h.c, g2.trans h.D, rfl⟩ rfl
      · rw [List.take_of_length_le (Nat.le_refl _)]
      · exact hs.bs.symm
    · have := h.len; show (P.sts ++ [_]).length ≤ 1 + t'; rw [List.length_append, List.length_singleton]; omega

/-- Behind Compact. -/
theorem PExt.compacted {t : Nat} {M : Ag} {R : Rf} {P : PD} (h : PExt t M P) (hi : Inv M t) (hs : Sim M R) (sv : Value) : PExt (t + 200) M.compacted { P with lg := encStr M.compacted.log, sv := sv, sts := [⟨M.compacted.log.length, R.rs, R.dead⟩] } := by
  have hl := h.li.compacted hi h.id
  refine ⟨h.c, h.D, h.so, rfl, ?_, hl, h.id, by show 1 ≤ 1 + (t + 200); omega⟩
  exact Stands.one (M := M.compacted) ⟨hi.compacted, hl, h.id, by rw [List.take_of_length_le (Nat.le_refl _)], Nat.le_refl _, hs.bs.symm, hs.dead.symm, h.c, h.D, rfl⟩ rfl
/-- Behind a crash. -/
theorem PExt.crashed {t j : Nat} {M Mj : Ag} {P : PD} {s : StD} (h : PExt t M P) (hs : P.sts[j]? = some s) (hj : StOk t P.c P.D M.ns M.log s Mj) (sv : Value) : PExt t Mj.crashed { P with lg := encStr (M.log.take s.n), sv := sv, sts := P.sts.take (j + 1) } := by
  refine ⟨hj.c, hj.D, by show Mj.ns.Pairwise _; rw [hj.ns]; exact h.so, by show _ = encStr Mj.log; rw [hj.log], ?_, hj.linv.crashed, hj.ids, ?_⟩
  · show Stands t P.c P.D Mj.ns Mj.log (P.sts.take (j + 1))
    rw [hj.ns, hj.log]
    exact h.st.back hs
  · have := h.len; show (P.sts.take (j + 1)).length ≤ _; rw [List.length_take]; omega
/-- At first. -/
theorem PExt.new {c : Cfg} {m : Option Nat} {D : DataW Unit} {ns : List (List UInt8)} {sv : Value} (hi : Inv (Ag.new c D ns) 0) (hso : ns.Pairwise (fun a b => a ≤ b)) : PExt 0 (Ag.new c D ns) ⟨c, m, D, sv, .string ⟨#[]⟩, [⟨0, [], []⟩]⟩ := by
  have hq : 0 ≤ c.q := by
    have := List.all_eq_true.1 hi.good.1 (c.q, 1, 120) (by simp [Cfg.nums, Ag.new])
    simp [inB] at this
    omega
  have hl := linv_new c D ns hq
  have hid : IdsOk (Ag.new c D ns).bs := fun i j b b' hb => by simp [Ag.new] at hb
  exact ⟨rfl, rfl, hso, rfl, Stands.one (M := Ag.new c D ns) ⟨hi, hl, hid, rfl, Nat.le_refl _, rfl, rfl, rfl, rfl, rfl⟩ rfl, hl, hid, by simp⟩

/-- What of one pair, all in all, may turn. -/
def pairP (i : Nat) : Lab → Prop := fun l => ofP (2 * i + 1) l ∨ ofP (2 * i + 2) l ∨ prP i l
theorem pairP_not {i k n : Nat} (h : k < 8 ∨ 10 ≤ k ∨ n ≠ i) : ¬ pairP i (bl k n) := by
  rintro (⟨q, e⟩ | ⟨q, e⟩ | e | e)
  · simp [bl] at e
  · simp [bl] at e
  · simp [bl] at e; omega
  · simp [bl] at e; omega
theorem pairP_none (i : Nat) : ¬ pairP i none := by
  rintro (⟨q, e⟩ | ⟨q, e⟩ | e | e)
  · cases e
  · cases e
  · simp [bl] at e
  · simp [bl] at e
theorem pairP_other {i j : Nat} (hj : j ≠ 0) (h1 : j ≠ 2 * i + 1) (h2 : j ≠ 2 * i + 2) (q : Part) : ¬ pairP i (some (j, q)) := by
  rintro (⟨q, e⟩ | ⟨q, e⟩ | e | e)
  · simp at e; omega
  · simp at e; omega
  · simp [bl] at e; omega
  · simp [bl] at e; omega
/-- One pair has turned. -/
theorem WAt.pairTo {w w' : World} {L L' : Labs} {gw : Nat} {A : Nat → Addr} {cur : Array Value} {X : WS} (h : WAt w L gw A cur X) {i gp t' : Nat} {M : Ag} {R : Rf} {P : PD} (hv : X.ps[i]? = some (.pointer (some ⟨gp, 0, none⟩))) (hP : PairAt w' L' i gp t' M R P) (ht : X.t ≤ t') (s : Step (pairP i) L w L' w') :
    WAt w' L' gw A cur { X with t := t', ag := upd X.ag i M, rf := upd X.rf i R, pd := upd X.pd i P } := by
  have n0 : ∀ k n, k < 8 → ¬ pairP i (bl k n) := fun k n hk => pairP_not (Or.inl hk)
  refine ⟨h.blk.keep s (n0 _ _ (by omega)), h.c22, h.c23, h.c24, h.c25, h.prs.keep s (n0 _ _ (by omega)), fun j v hj => ?_, h.txt.keep s (n0 _ _ (by omega)) (fun _ _ => n0 _ _ (by omega)), h.snd.keep s (n0 _ _ (by omega)) (fun _ _ => n0 _ _ (by omega)), h.mps.keep s (n0 _ _ (by omega)) (fun _ _ => n0 _ _ (by omega)), h.err.keep s (pairP_none i)⟩
  have hj' : X.ps[j]? = some v := hj
  by_cases e : j = i
  · subst e
    rw [hv] at hj'
    cases hj'
    refine ⟨gp, rfl, ?_⟩
    show PairAt w' L' j gp t' (upd X.ag j M j) (upd X.rf j R j) (upd X.pd j P j)
    rw [upd_self, upd_self, upd_self]
    exact hP
  · obtain ⟨gp', e', gx, gy, q1, q2, q3, q4, q5, q6, q7⟩ := h.pr j v hj'
    refine ⟨gp', e', ?_⟩
    show PairAt w' L' j gp' t' (upd X.ag i M j) (upd X.rf i R j) (upd X.pd i P j)
    rw [upd_other _ _ e, upd_other _ _ e, upd_other _ _ e]
    exact ⟨gx, gy, q1.keep s (pairP_not (Or.inr (Or.inr e))), q2.keep s (fun q => pairP_other (by omega) (by omega) (by omega) q), q3.keep s (fun q => pairP_other (by omega) (by omega) (by omega) q), q4, q5.more ht, q6.keepI s (pairP_not (Or.inr (Or.inr e))) (pairP_not (Or.inr (Or.inr e))) (pairP_not (Or.inr (Or.inr e))), q7.keep s (pairP_none i)⟩
end Go.Proofs.YtojpjaifhjigfaaGreatDoor
