/- Open of an empty log. -/
import Derived.Test.YtojpjaifhjigfaaGreatDoorOpenNew
import Derived.Test.YtojpjaifhjigfaaGreatDoorGood
namespace Go.Proofs.YtojpjaifhjigfaaGreatDoor
open Go.RowKit Go.Maps

theorem Sents.Holds.below {w w' : World} {tp : TypeId} {g : List Nat} {n : Nat} {A : Nat → Addr} (h : Sents.Holds w tp g n A) (hb : Below w.heap.size w w') : Sents.Holds w' tp g n A :=
  ⟨fun i hi => by have := World.block_lt_of_cell? w _ (h.cell i hi); rw [hb.cell (p := ⟨g.getD i 0, 0, none⟩) this]; exact h.cell i hi,
   fun i hi => by
    obtain ⟨c, t, hc⟩ := h.block i hi
    exact ⟨c, t, by rw [hb.block _ (Array.getElem?_eq_some_iff.1 hc).1]; exact hc⟩, h.inj⟩
/-- The errors lie where nobody has a label. -/
structure ErrsAt (w : World) (L : Labs) (A : Nat → Addr) : Prop where
  hs : Sents.Holds w 260 gl 11 A
  l1 : ∀ i, i < 11 → L (gl.getD i 0) = none
  l2 : ∀ i, i < 11 → L (A i).block = none
theorem ErrsAt.keep {w w' : World} {L L' : Labs} {A : Nat → Addr} (h : ErrsAt w L A) {p : Lab → Prop} (s : Step p L w L' w') (hp : ¬ p none) : ErrsAt w' L' A := by
  have b1 : ∀ i, i < 11 → gl.getD i 0 < w.heap.size := fun i hi => World.block_lt_of_cell? w _ (h.hs.cell i hi)
  have b2 : ∀ i, i < 11 → (A i).block < w.heap.size := fun i hi => by
    obtain ⟨c, t, hc⟩ := h.hs.block i hi
    exact (Array.getElem?_eq_some_iff.1 hc).1
  refine ⟨⟨fun i hi => ?_, fun i hi => ?_, h.hs.inj⟩, fun i hi => (s.lab _ (b1 i hi)).trans (h.l1 i hi), fun i hi => (s.lab _ (b2 i hi)).trans (h.l2 i hi)⟩
  · rw [World.cell?_of_block (a := ⟨gl.getD i 0, 0, none⟩) (s.block _ (b1 i hi) (by rw [h.l1 i hi]; exact hp))]
    exact h.hs.cell i hi
  · obtain ⟨c, t, hc⟩ := h.hs.block i hi
    exact ⟨c, t, by rw [s.block _ (b2 i hi) (by rw [h.l2 i hi]; exact hp)]; exact hc⟩

theorem open_bad (A : Nat → Addr) (c : Cfg) (m : Option Nat) (D : DataW Unit) (w : World) (hS : Sents.Holds w 260 gl 11 A) (h : MapAt w m D) (hg : ¬ GoodC c D) :
    Calls Tryz.prog 26 #[c.val m, .string ⟨#[]⟩] w fun e w' => e = .returned (.tuple #[.pointer none, ev A 0]) ∧ Below w.heap.size w w' := by
  have H := hide h
  have c0 := hS.cell 0 (by decide)
  simp only [gl, List.getD_cons_zero] at c0
  have hlt0 := World.block_lt_of_cell? w _ c0
  have C0 := hide c0
  clear h hS c0
  go_enter Tryz.func26, Tryz.ntmps26
  go_wp2_with fail
  refine (isConfig_any c m D _ (H.out.alloc _)).mono ?_
  rintro e w1 ⟨r, rfl, hr, hb1⟩
  have hr' : r = false := by cases r with | false => rfl | true => exact absurd (hr.1 rfl) hg
  subst hr'
  clear hr hg
  have hB1 : Below w.heap.size w w1 := ((Below.refl _ _).alloc (Nat.le_refl _) _).trans (hb1.mono (by simp))
  have h0 : w1.cell? ⟨_, 0, none⟩ = some (ev A 0) := (hB1.cell (p := ⟨_, 0, none⟩) hlt0).trans C0.out
  have HB1 := hide hB1
  clear hb1 hB1
  go_wp2_with fail
  go_quiet (fail)
  go_wp2_with fail
  go_ret2
  exact ⟨rfl, below_drewN HB1.out _⟩

/-- What Open of an empty log brings. -/
def Opened (L : Labs) (who : Nat) (c : Cfg) (D : DataW Unit) (w w' : World) (g : Nat) (L' : Labs) (ns : List (List UInt8)) : Prop := AgentAt w' L' who g (Ag.new c D ns) ∧ ns.Perm (strKeys D) ∧ ns.Pairwise (fun x y => x ≤ y) ∧ Below w.heap.size w w' ∧ w.heap.size ≤ g ∧ (∀ k, k < w.heap.size → L' k = L k) ∧ ∀ k, w'.heap.size ≤ k → L' k = none

theorem open_good (L : Labs) (who : Nat) (c : Cfg) (m : Option Nat) (D : DataW Unit) (w : World) (h : MapAt w m D) (hg : GoodC c D) :
    Calls Tryz.prog 26 #[c.val m, .string ⟨#[]⟩] w fun e w' => ∃ g L' ns, e = .returned (.tuple #[.pointer (some ⟨g, 0, none⟩), .nilIface]) ∧ Opened L who c D w w' g L' ns := by
  have H := hide h
  have hd := Cfg.num_d hg.1
  obtain ⟨b, n, rfl, hown⟩ : ∃ b n, m = some b ∧ OM w b n D := by
    rcases h with ⟨_, rfl⟩ | ⟨b, n, h1, h2, _⟩
    · exact absurd hg.2.1.1.1 (by simp [Maps.size])
    · exact ⟨b, n, h1, h2⟩
  have hsz : Maps.size D ≤ 8 := hg.2.1.1.2
  have HO := hide hown
  have HG := hide hg
  clear h hown hg
  go_enter Tryz.func26, Tryz.ntmps26
  go_wp2_with fail
  refine (isConfig_any c (some b) D _ (H.out.alloc _)).mono ?_
  rintro e w1 ⟨r, rfl, hr, hb1⟩
  obtain rfl : r = true := hr.2 HG.out
  clear hr
  have hB1 : Below w.heap.size w w1 := ((Below.refl _ _).alloc (Nat.le_refl _) _).trans (hb1.mono (by simp))
  have Hb1 := hide hb1
  have HB1 := hide hB1
  obtain ⟨hc1, _⟩ := bcell hb1
  simp only [World.size_alloc] at hc1
  clear hb1 hB1
  go_wp2_with fail
  refine (newAgent_any c b n D _ hd.1 hd.2 (om_below (HO.out.alloc _) Hb1.out (HO.out.alloc _).lt) hsz).mono ?_
  rintro e w2 ⟨g, bq, bm, cn, go, nv, ns, fs, rfl, hN⟩
  have HN := hide hN
  clear hN hc1
  go_wp2_with fail
  refine (replay_empty g c.ba _ _ HN.out.blk rfl rfl rfl rfl).mono ?_
  rintro e w3 ⟨gr, rfl, hgr, hK, hr, ho, hb3⟩
  have HA : Hid (Opened L who c D w w3 g (newLabs L w1.heap.size w3 who bq fs) ns) := by
    have h1 : w.heap.size ≤ w1.heap.size := HB1.out.size
    have h2 := HN.out.bg
    refine ⟨agentAt_new L who HN.out hgr (by rw [HN.out.pm.length_eq, size_strKeys HO.out]) hK hr ho, HN.out.pm, HN.out.so, (HB1.out.trans (HN.out.bw.mono h1)).trans (hb3.mono (by omega)), by omega, fun k hk => newLabs_old _ _ _ _ _ _ k (by omega), fun k hk => newLabs_none (by have := HN.out.bw.size; have := hb3.size; omega) hk⟩
  clear hgr hK hr ho hb3
  go_wp2_with fail
  go_ret2
  exact ⟨g, _, ns, rfl, HA.out⟩
end Go.Proofs.YtojpjaifhjigfaaGreatDoor
