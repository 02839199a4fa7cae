/- (*World).opened, over the whole world. -/
import Derived.Test.YtojpjaifhjigfaaGreatDoorOpenedNew
namespace Go.Proofs.YtojpjaifhjigfaaGreatDoor
open Go.RowKit Go.Maps

/-- The labels of some blocks are said otherwise: those that had one keep it. -/
def Relab (L L' : Labs) : Prop := ∀ k l, L k = some l → L' k = some l
theorem BlkAt.relab {w : World} {L L' : Labs} {l : Nat × Part} {g : Nat} {cur : Array Value} {e : TypeId} (h : BlkAt w L (some l) g cur e) (r : Relab L L') : BlkAt w L' (some l) g cur e := ⟨h.1, r _ _ h.2⟩
theorem RowAt.relab {w : World} {L L' : Labs} {l : Nat × Part} {e : TypeId} {size : Nat} {v : Value} {n : Nat} {xs : List Value} (h : RowAt w L (some l) e size v n xs) (r : Relab L L') : RowAt w L' (some l) e size v n xs := ⟨h.1, fun g hg => r _ _ (h.2 g hg)⟩
theorem OMapAt.relab {H : Type} {w : World} {L L' : Labs} {l : Nat × Part} {P : Program} {k : TypeId} {R : Value → Option (DataW H × List MemPlace)} {b n : Nat} {D : DataW H} (h : OMapAt w L (some l) P k R b n D) (r : Relab L L') : OMapAt w L' (some l) P k R b n D := ⟨h.1, r _ _ h.2⟩
theorem AgentAt.relab {w : World} {L L' : Labs} {who g : Nat} {M : Ag} (h : AgentAt w L who g M) (r : Relab L L') : AgentAt w L' who g M := by
  obtain ⟨bq, bm, cn, tv, dv, nv, rv, ov, h⟩ := h
  obtain ⟨D, q1, q2, q3, q4, q5⟩ := h.qs
  obtain ⟨fs, o1, o2, o3⟩ := h.ol
  refine ⟨bq, bm, cn, tv, dv, nv, rv, ov, h.blk.relab r, h.tk.relab r, ⟨D, q1.relab r, q2, q3, q4, fun d t hl => (q5 d t hl).relab r⟩, h.dd.relab r, h.nm.relab r, h.rt.relab r, ⟨fs, o1, o2.relab r, fun i o f hi hf => ?_⟩, h.cm.relab r⟩
  obtain ⟨g1, a1, a2, a3⟩ := o3 i o f hi hf
  exact ⟨g1, a1, a2.relab r, a3.relab r⟩

/-- The labels of what a new pair has brought. -/
def pairLabs (L1 : Labs) (B : Nat) (w : World) (i : Nat) : Labs := fun k =>
  if k < B then L1 k else match w.heap[k]? with
  | some (.cells _ t _) => if t = 102 then bl 8 i else if t = 109 then some (2 * i + 2, .ag) else if t = 9 then some (2 * i + 2, .nm) else if t = 97 then bl 7 0 else none
  | _ => none
theorem pairLabs_cells {L1 : Labs} {B : Nat} {w : World} {i k : Nat} {cs : Array Value} {t : TypeId} (hk : B ≤ k) (h : Blk w k cs t) : pairLabs L1 B w i k =
    if t = 102 then bl 8 i else if t = 109 then some (2 * i + 2, .ag) else if t = 9 then some (2 * i + 2, .nm) else if t = 97 then bl 7 0 else none := by
  unfold Blk at h
  simp [pairLabs, h, Nat.not_lt.2 hk]
theorem pairLabs_old {L1 : Labs} {B : Nat} {w : World} {i k : Nat} (hk : k < B) : pairLabs L1 B w i k = L1 k := by simp [pairLabs, hk]

theorem strKeys_nodup {w : World} {b n : Nat} {D : DataW Unit} (h : OM w b n D) : (strKeys D).Nodup := by
  obtain ⟨es, rfl, hkk⟩ := h.keysOf
  obtain ⟨es', e', hpw, _⟩ := h.entries lawS
  cases e'
  show (es.map fun p => strOf p.1).Nodup
  rw [List.nodup_iff_pairwise_ne, List.pairwise_map]
  refine (List.Pairwise.imp_of_mem (fun {p q} hp hq hne he => hne ?_) hpw)
  obtain ⟨v, hv⟩ := hkk p hp
  obtain ⟨y, _, hy, _⟩ := Maps.keyOf_str Tryz.underlying9 hv
  obtain ⟨v', hv'⟩ := hkk q hq
  obtain ⟨y', _, hy', _⟩ := Maps.keyOf_str Tryz.underlying9 hv'
  rw [hy, hy'] at he ⊢
  simpa [strOf] using he

theorem sim_new {w : World} {b n : Nat} {c : Cfg} {D : DataW Unit} {ns ss : List (List UInt8)} (h : OM w b n D) (hg : GoodC c D) (hp : ss.Perm (strKeys D)) : Sim (Ag.new c D ns) ⟨c, some b, ss, [], [], 0⟩ where
  c := rfl
  bs := rfl
  dd := rfl
  dr := rfl
  good := hg
  pm := hp
  nd := hp.nodup_iff.2 (strKeys_nodup h)
  nl := by rw [hp.length_eq, size_strKeys h]; exact hg.2.1.1.2
  sl := fun x hx => by
    have hh := (mem_strKeys h x).1 (hp.mem_iff.1 hx)
    obtain ⟨q, hat, _⟩ := look_at h hh
    have := hg.2.1.2 x q hat
    simp [okKV, inB] at this
    omega
  hs := fun x => by rw [hp.mem_iff, mem_strKeys h]; rfl
  b120 := by simp [Ag.new]
  each := fun b hb => by simp [Ag.new] at hb
  rt := rfl
  lg := Nat.zero_le _

/-- Configuration n of the world. -/
structure CfgAt (w : World) (L : Labs) (cur : Array Value) (n : Nat) (c : Cfg) (m : Option Nat) (D : DataW Unit) : Prop where
  cell : ∀ j v, (c.cells m)[j]? = some v → cur[n * 11 + j]? = some v
  map : MapAt w m D
  lab : ∀ b, m = some b → L b = none
theorem CfgAt.keep {w w' : World} {L L' : Labs} {cur cur' : Array Value} {n : Nat} {c : Cfg} {m : Option Nat} {D : DataW Unit} (h : CfgAt w L cur n c m D) {p : Lab → Prop} (s : Step p L w L' w') (hp : ¬ p none) (hc : ∀ i, i < 22 → cur'[i]? = cur[i]?) (hn : n < 2) : CfgAt w' L' cur' n c m D := by
  refine ⟨fun j v hv => ?_, ?_, fun b hb => ?_⟩
  · have hj : j < 11 := (Array.getElem?_eq_some_iff.1 hv).1
    rw [hc _ (by omega)]
    exact h.cell j v hv
  · rcases h.map with q | ⟨b, n', h1, h2, h3⟩
    · exact Or.inl q
    · exact Or.inr ⟨b, n', h1, ownsMap_of_block h2 (s.block b h2.lt (by rw [h.lab b h1]; exact hp)), h3⟩
  · rcases h.map with ⟨q, _⟩ | ⟨b', n', h1, h2, h3⟩
    · rw [hb] at q; cases q
    · rw [hb] at h1
      cases h1
      rw [s.lab _ h2.lt]
      exact h.lab _ hb

/-- What opened may turn. -/
def opP : Lab → Prop := fun l => l = bl 7 0 ∨ l = bl 2 0

theorem opened_any (L : Labs) (gw : Nat) (A : Nat → Addr) (z : Int) (n : Nat) (hn : n < 2) (hpk : PickIs z n) (cur : Array Value) (pv tv mv : Value) (np nt nm : Nat) (ps : List Value) (c : Cfg) (m : Option Nat) (D : DataW Unit) (w : World) (h : WAt w L gw A cur pv tv mv np nt nm ps) (hc : CfgAt w L cur n c m D) (hnp : np ≤ 8000000) :
    Calls Tryz.prog 16 #[.pointer (some ⟨gw, 0, none⟩), .int .i64 z] w fun e w' => e = .returned (.bool true) ∧ ∃ L' cur' pv' np' ps', WAt w' L' gw A cur' pv' tv mv np' nt nm ps' ∧ np ≤ np' ∧ np' ≤ np + 1 ∧ (GoodC c D → np' = np + 1) ∧ (∀ i, i ≠ 22 → cur'[i]? = cur[i]?) ∧ Step opP L w L' w' := by
  have hcells : w.cell? ⟨gw, n * 11, none⟩ = some (.int .i64 c.d) ∧ w.cell? ⟨gw, n * 11 + 1, none⟩ = some (.map (m)) ∧ w.cell? ⟨gw, n * 11 + 2, none⟩ = some (.int .i64 c.q) ∧ w.cell? ⟨gw, n * 11 + 3, none⟩ = some (.int .i64 c.at') ∧ w.cell? ⟨gw, n * 11 + 4, none⟩ = some (.int .i64 c.ba) ∧ w.cell? ⟨gw, n * 11 + 5, none⟩ = some (.int .i64 c.ca) ∧ w.cell? ⟨gw, n * 11 + 6, none⟩ = some (.int .i64 c.ti) ∧ w.cell? ⟨gw, n * 11 + 7, none⟩ = some (.int .i64 c.wi) ∧ w.cell? ⟨gw, n * 11 + 8, none⟩ = some (.int .i64 c.le) ∧ w.cell? ⟨gw, n * 11 + 9, none⟩ = some (.float .f64 c.th) ∧ w.cell? ⟨gw, n * 11 + 10, none⟩ = some (.int .i64 c.op) := ⟨(h.blk.1.cell _).trans (hc.cell 0 _ rfl), (h.blk.1.cell _).trans (hc.cell 1 _ rfl), (h.blk.1.cell _).trans (hc.cell 2 _ rfl), (h.blk.1.cell _).trans (hc.cell 3 _ rfl), (h.blk.1.cell _).trans (hc.cell 4 _ rfl), (h.blk.1.cell _).trans (hc.cell 5 _ rfl), (h.blk.1.cell _).trans (hc.cell 6 _ rfl), (h.blk.1.cell _).trans (hc.cell 7 _ rfl), (h.blk.1.cell _).trans (hc.cell 8 _ rfl), (h.blk.1.cell _).trans (hc.cell 9 _ rfl), (h.blk.1.cell _).trans (hc.cell 10 _ rfl)⟩
  by_cases hg : GoodC c D
  · obtain ⟨b, nb, rfl, hO, hnb⟩ : ∃ b nb, m = some b ∧ OM w b nb D ∧ nb ≤ big := by
      rcases hc.map with ⟨_, e⟩ | q
      · exact absurd hg.2.1.1.1 (by rw [e]; simp [Maps.size])
      · exact q
    obtain ⟨pa, pk, rfl, _⟩ := h.prs.shape
    refine (opened_good L (2 * np + 1) (by omega) z n gw hn hpk c b nb D cur pa np pk ps w hO hnb hg h.blk h.c22 h.prs hnp hcells).mono ?_
    rintro e w' ⟨rfl, gp, gx, B, L1, ns, pa', pk', hK, hrow, hat, hraw, hAg, hpm, hso, hB0, hB1, hL1, hLn, hkept⟩
    obtain ⟨gy, nv, ss, qv, la, lk, sv, lg, hgp, hgy, hkp, hky, hT, hss⟩ := hraw
    have hrel : Relab L1 (pairLabs L1 B w' np) := fun k l hk => by
      by_cases hkB : k < B
      · rw [pairLabs_old hkB]; exact hk
      · rw [hLn k (by omega)] at hk; cases hk
    have hgwl := h.blk.1.lt
    have hpl : ps.length = np := by have := h.prs.1.1; omega
    have hS : Step opP L w (pairLabs L1 B w' np) w' := by
      refine ⟨hkept.os, hkept.tape, hkept.output, hkept.size, fun k hk => by rw [pairLabs_old (by omega)]; exact hL1 k hk, fun k hk hne => hkept.block k hk (fun e => hne ?_) (fun e => hne ?_)⟩
      · rw [e, h.blk.2]; exact Or.inr rfl
      · rw [h.prs.2 k e.symm]; exact Or.inl rfl
    refine ⟨rfl, pairLabs L1 B w' np, cur.setIfInBounds 22 (.slice pa' (np + 1) pk'), .slice pa' (np + 1) pk', np + 1, ps ++ [.pointer (some ⟨gp, 0, none⟩)], ?_, by omega, Nat.le_refl _, fun _ => rfl, fun i hi => by rw [Array.getElem?_setIfInBounds_ne (fun e => hi e.symm)], hS⟩
    have hl22 := (Array.getElem?_eq_some_iff.1 h.c22).1
    refine ⟨⟨hK, by rw [pairLabs_old (by omega), hL1 gw hgwl]; exact h.blk.2⟩, by simp [hl22], by rw [Array.getElem?_setIfInBounds_ne (by omega)]; exact h.c23, by rw [Array.getElem?_setIfInBounds_ne (by omega)]; exact h.c24, by rw [Array.getElem?_setIfInBounds_ne (by omega)]; exact h.c25, ⟨hrow, fun q hq => ?_⟩, fun i v hv => ?_,
      h.txt.keep hS (by simp [opP, bl]) (fun i _ => by simp [opP, bl]), h.mps.keep hS (by simp [opP, bl]) (fun i _ => by simp [opP, bl]), h.err.keep hS (by simp [opP])⟩
    · rcases hat q hq with hq' | hq'
      · have hql : q < w.heap.size := (h.prs.1.lt q hq').2
        rw [pairLabs_old (by omega), hL1 q hql]
        exact h.prs.2 q hq'
      · rcases hrow.2 with ⟨e, _⟩ | ⟨q', cap, cu, q1, q2, q3, q4⟩
        · cases e
        · rw [q1] at hq
          obtain rfl : q' = q := by simpa [Value.ownBlock] using hq
          rw [pairLabs_cells hq' q3]
          rfl
    · by_cases hil : i < ps.length
      · rw [List.getElem?_append_left hil] at hv
        obtain ⟨gp', M', R', e', hP'⟩ := h.pr i v hv
        exact ⟨gp', M', R', e', hP'.keep hS (by simp [opP, bl]) (fun q => by simp [opP, bl]) (fun q => by simp [opP, bl])⟩
      · rw [List.getElem?_append_right (by omega)] at hv
        have e0 : i - ps.length = 0 := by
          have := (List.getElem?_eq_some_iff.1 hv).1
          simp at this; omega
        rw [e0] at hv
        obtain rfl : i = np := by omega
        simp at hv
        refine ⟨gp, Ag.new c D ns, ⟨c, some b, ss, [], [], 0⟩, hv.symm, gx, gy, c, some b, sv, lg, ⟨hkp, by rw [pairLabs_cells hgp hkp]; rfl⟩, hAg.relab hrel, ?_, sim_new hO hg hss⟩
        refine ⟨nv, qv, .slice none 0 0, .slice none 0 0, la, lk, ⟨hky, by rw [pairLabs_cells hgy hky]; rfl⟩, ⟨⟨hT.1, ?_⟩, fun q hq => ?_⟩, RowAt.nil _ _ _ _ _, RowAt.nil _ _ _ _ _⟩
        · rcases hT.2 with e | ⟨q', cap, cu, q1, q2, q3⟩
          · exact Or.inl e
          · exact Or.inr ⟨q', cap, cu, q1, Nat.zero_le _, q3⟩
        · rcases hT.2 with ⟨e, _⟩ | ⟨q', cap, cu, q1, q2, q3, q4⟩
          · have e' : nv = .slice none 0 0 := e
            simp only [e', Value.ownBlock] at hq
            cases hq
          · have e' : nv = _ := q1
            rw [e'] at hq
            obtain rfl : q' = q := by simpa [Value.ownBlock] using hq
            rw [pairLabs_cells q2 q3]
            rfl
  · refine (opened_bad z n gw hn hpk A c m D w h.err.hs hc.map hg hcells).mono ?_
    rintro e w' ⟨rfl, hb⟩
    exact ⟨rfl, L, cur, pv, np, ps, h.below hb, Nat.le_refl _, by omega, fun h => absurd h hg, fun _ _ => rfl, Step.of_below hb⟩
end Go.Proofs.YtojpjaifhjigfaaGreatDoor
