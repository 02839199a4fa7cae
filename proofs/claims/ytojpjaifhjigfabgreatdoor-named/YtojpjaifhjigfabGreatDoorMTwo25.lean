/- conduitkeep's run: submit, the walk. -/
import Derived.Test.YtojpjaifhjigfabGreatDoorMTwo24
namespace Go.Proofs.YtojpjaifhjigfabGreatDoor
open Go.RowKit Go.Maps

/-- What submit brings. -/
def SubR (w : World) (gr g cm : Nat) (zs : List Int) (N : Nat) (b : Bat) (R : Rn) (M : Ag) (t : Nat) (e : Ending) (w' : World) : Prop :=
  e = .returned (.tuple #[]) ∧ ∃ L', RK w w' L' gr g cm zs N (R.more b) (M.submitted b) t

set_option maxRecDepth 100000 in
set_option maxHeartbeats 16000000 in
set_option linter.unusedSimpArgs false in
theorem rsub_core (A : Nat → Addr) (w wr : World) (L : Labs) (gr g cm : Nat) (zs : List Int) (N : Nat) (R : Rn) (M : Ag) (t : Nat) (dI tI : Int) (size : Nat) (hN : N = 1 + pickN (zs.getD 9 0) 4) (hS : Sents.Holds w 197 gl 11 A) (hK : RK w wr L gr g cm zs N R M t) (hLn : ∀ k, wr.heap.size ≤ k → L k = none) (ht : t + 10 ≤ 4000000000000) (hn : R.n < 100) (hd : -9223372036854775808 ≤ dI ∧ dI ≤ 9223372036854775807) (htI : -9223372036854775808 ≤ tI ∧ tI ≤ 9223372036854775807) (hs : size ≤ 63) :
    Calls Tryz.prog 24 #[.pointer (some ⟨gr, 0, none⟩), .int .i64 dI, .int .i64 tI, .int .i64 size] wr fun e w' => SubR w gr g cm zs N (rbat (pickN dI (madeC zs).d.toNat) (pickN tI N) R.n size) R M (t + 1) e w' := by
  have h9 := pickN_lt (zs.getD 9 0) (n := 4) (by omega)
  have hN1 : 1 ≤ N := by omega
  have hN4 : N ≤ 4 := by omega
  have hcfg := Cfg.ok (show GoodC (madeC zs) (DT (madeT zs N)) from by have := hK.inv.good; rw [hK.c, hK.D] at this; exact this).1
  obtain ⟨dn, hdn⟩ : ∃ dn : Nat, (madeC zs).d = dn := ⟨(madeC zs).d.toNat, by have := hcfg.d; omega⟩
  have hdn1 : 1 ≤ dn := by have := hcfg.d; omega
  have hdt : (madeC zs).d.toNat = dn := by rw [hdn]; rfl
  rw [hdt]
  have hp := pickN_lt dI (n := dn) (by omega)
  have hq := pickN_lt tI (n := N) (by omega)
  have href := hK.subOk hn (d := pickN dI dn) (tn := pickN tI N) (size := size) (by rw [hdn]; omega) hq hN4 hs
  have HRk := hide (fun W' L' (hR : RunAt W' L' gr g cm (madeC zs) _) hA hB => hK.subRk hn (d := pickN dI dn) (tn := pickN tI N) (size := size) (by rw [hdn]; omega) hq hN4 hs (w' := W') (L' := L') hR hA hB)
  obtain ⟨fv, wv, hP⟩ := hK.at'
  have HPk : Hid (∀ W, Below wr.heap.size wr W → RunP W L gr g cm (madeC zs) fv wv R) := fun W hW => hP.keep (Step.of_below (p := fun _ => False) hW) (fun _ h => h)
  obtain ⟨mn, hmn, hOM, hLcm⟩ := hK.cm
  have hcml := hOM.lt
  have hsz : Maps.size (DT (madeT zs N)) = N := by
    rw [← size_strKeys hOM, made_keys zs hN1 hN4, List.length_take]
    show min N 4 = N
    omega
  have HOM := hide hOM
  obtain ⟨es, clock, hes, hes2⟩ := hOM
  have hlen : ∀ (W : World), W.heap[cm]? = some (.map es clock) → ∀ ty, (Builtin.len_ #[27] ty #[.map (some cm)]).run Tryz.prog W = .ok (.int .i64 N) W := fun W hW ty => by
    have := World.ownsMap.len (n := mn) (R := plainElem Tryz.prog 3) (w := W) (D := DT (madeT zs N)) ⟨es, clock, hW, hes2⟩ Tryz.underlying27 ty
    rw [hsz] at this
    exact this
  have HLen : Hid (∀ W, Below wr.heap.size wr W → ∀ ty, (Builtin.len_ #[27] ty #[.map (some cm)]).run Tryz.prog W = .ok (.int .i64 N) W) := fun W hW => hlen W ((hW.block cm hcml).trans hes)
  obtain ⟨x, hxe⟩ : ∃ x, kn.getD (pickN tI N) [] = x := ⟨_, rfl⟩
  have HC : Hid (∀ W, Below wr.heap.size wr W → W.cell? ⟨gr, 1, none⟩ = some (.int .i64 dn) ∧ W.cell? ⟨gr, 2, none⟩ = some (.map (some cm)) ∧ W.cell? ⟨gr, 15, none⟩ = some (.int .i64 R.n)) := fun W hW => by
    have h := (HPk.out W hW).blk.1
    refine ⟨?_, h.cell 2, h.cell 15⟩
    rw [← hdn]
    exact h.cell 1
  obtain ⟨c1, c2, c15⟩ := HC.out wr (Below.refl _ _)
  have HK := hide hK
  have HLn := hide hLn
  have HS := hide hS
  obtain ⟨rn, hrn⟩ : ∃ rn, R.n = rn := ⟨_, rfl⟩
  rw [hrn] at HC hn c15
  have Hrn := hide hrn
  have hnI : ¬ (100 ≤ (rn : Int)) := by omega
  have Hd : Hid (InR dI) := hd
  have HtI : Hid (InR tI) := htI
  have hq4 : pickN tI N < 4 := by omega
  have hqI : (pickN tI N : Int) < 4 := by omega
  have HX : Hid (kn.getD (pickN tI N) [] = x) := hxe
  have hbe : rbat (pickN dI dn) (pickN tI N) R.n size = ⟨(pickN dI dn : Int), x, kid rn, kbody size, 1, 0⟩ := by unfold rbat; rw [hxe, hrn]
  rw [hbe] at HRk href ⊢
  have Href := hide href
  clear hbe href
  clear hd htI hP hK hLn hS hrn hxe hes hes2 hlen hsz hcfg hLcm hp hq h9 hdt hdn hN
  have HSs : Hid (∀ W, Below wr.heap.size wr W → SubS W gr cm dn N rn) := fun W hW => ⟨(HC.out W hW).1, (HC.out W hW).2.1, (HC.out W hW).2.2, HLen.out W hW⟩
  have HTs : Hid (∀ W gn, Below wr.heap.size wr W → NmAt W gn → SubT W gr cm dn N rn gn (pickN tI N) x) := fun W gn hW hn => ⟨HSs.out W hW, HX.out ▸ hn.cell hq4⟩
  go_enter Tryz.func24, Tryz.ntmps24
  go_wp2_with fail
  go_cut [8] (fun s8 wx => NewBat wr (pickN dI dn) x rn size s8 wx)
  case first =>
    refine wp_region_noPanic ?_
    refine wp_region_held_drew (S := fun w' => SubS w' gr cm dn N rn) (by kernel_rfl) ?_ (fun hHeld => ?_)
    · exact HSs.out _ (Below.refl _ _).drew
    have HB0 : Hid (Below wr.heap.size wr wr.drew) := (Below.refl _ _).drew
    refine wpAnyH_take (i := 0) (v := ?tv1) rfl (by kernel_rfl) (by kernel_rfl) (by kernel_rfl) (fun _ _ _ h => h) (Or.inl ⟨by rfl, ?ty1⟩) (by assumption) ?tr1
    case ty1 => (intro wv hSv; obtain ⟨hc1, hc2, hc15, hln⟩ := hSv; go_simp <;> with_reducible rfl)
    try simp only [Act.put, List.setIfInBounds_toArray, List.set_cons_zero, List.set_cons_succ]
    refine wpAnyH_take (i := 1) (v := ?tv2) rfl (by kernel_rfl) (by kernel_rfl) (by kernel_rfl) (fun _ _ _ h => h) (Or.inl ⟨by rfl, ?ty2⟩) (by assumption) ?tr2
    case ty2 => (intro wv hSv; obtain ⟨hc1, hc2, hc15, hln⟩ := hSv; go_simp <;> with_reducible rfl)
    try simp only [Act.put, List.setIfInBounds_toArray, List.set_cons_zero, List.set_cons_succ]
    refine wpAnyH_take (i := 2) (v := ?tv3) rfl (by kernel_rfl) (by kernel_rfl) (by kernel_rfl) (fun _ _ _ h => h) (Or.inl ⟨by rfl, ?ty3⟩) (by assumption) ?tr3
    case ty3 => (intro wv hSv; obtain ⟨hc1, hc2, hc15, hln⟩ := hSv; go_simp <;> with_reducible rfl)
    try simp only [Act.put, List.setIfInBounds_toArray, List.set_cons_zero, List.set_cons_succ]
    refine wpAnyH_take (i := 3) (v := ?tv4) rfl (by kernel_rfl) (by kernel_rfl) (by kernel_rfl) (fun _ _ _ h => h) (Or.inl ⟨by rfl, ?ty4⟩) (by assumption) ?tr4
    case ty4 => (intro wv hSv; obtain ⟨hc1, hc2, hc15, hln⟩ := hSv; go_simp <;> with_reducible rfl)
    try simp only [Act.put, List.setIfInBounds_toArray, List.set_cons_zero, List.set_cons_succ]
    refine wpAnyH_take (i := 4) (v := ?tv5) rfl (by kernel_rfl) (by kernel_rfl) (by kernel_rfl) (fun _ _ _ h => h) (Or.inl ⟨by rfl, ?ty5⟩) (by assumption) ?tr5
    case ty5 => (intro wv hSv; obtain ⟨hc1, hc2, hc15, hln⟩ := hSv; go_simp <;> with_reducible rfl)
    try simp only [Act.put, List.setIfInBounds_toArray, List.set_cons_zero, List.set_cons_succ]
    refine wpAnyH_take (i := 5) (v := ?tv6) rfl (by kernel_rfl) (by kernel_rfl) (by kernel_rfl) (fun _ _ _ h => h) (Or.inl ⟨by rfl, ?ty6⟩) (by assumption) ?tr6
    case ty6 => (intro wv hSv; obtain ⟨hc1, hc2, hc15, hln⟩ := hSv; go_simp <;> with_reducible rfl)
    try simp only [Act.put, List.setIfInBounds_toArray, List.set_cons_zero, List.set_cons_succ]
    refine wpAnyH_take (i := 8) (v := ?tv7) rfl (by kernel_rfl) (by kernel_rfl) (by kernel_rfl) (fun _ _ _ h => h) (Or.inl ⟨by rfl, ?ty7⟩) (by assumption) ?tr7
    case ty7 => (intro wv hSv; obtain ⟨hc1, hc2, hc15, hln⟩ := hSv; go_simp <;> with_reducible rfl)
    try simp only [Act.put, List.setIfInBounds_toArray, List.set_cons_zero, List.set_cons_succ]
    refine wpAnyH_take (i := 9) (v := ?tv8) rfl (by kernel_rfl) (by kernel_rfl) (by kernel_rfl) (fun _ _ _ h => h) (Or.inl ⟨by rfl, ?ty8⟩) (by assumption) ?tr8
    case ty8 => (intro wv hSv; obtain ⟨hc1, hc2, hc15, hln⟩ := hSv; go_simp <;> with_reducible rfl)
    try simp only [Act.put, List.setIfInBounds_toArray, List.set_cons_zero, List.set_cons_succ]
    refine wpAnyH_take (i := 10) (v := ?tv9) rfl (by kernel_rfl) (by kernel_rfl) (by kernel_rfl) (fun _ _ _ h => h) (Or.inl ⟨by rfl, ?ty9⟩) (by assumption) ?tr9
    case ty9 => (intro wv hSv; obtain ⟨hc1, hc2, hc15, hln⟩ := hSv; go_simp <;> with_reducible rfl)
    try simp only [Act.put, List.setIfInBounds_toArray, List.set_cons_zero, List.set_cons_succ]
    refine wpAnyH_take (i := 11) (v := ?tv10) rfl (by kernel_rfl) (by kernel_rfl) (by kernel_rfl) (fun _ _ _ h => h) (Or.inl ⟨by rfl, ?ty10⟩) (by assumption) ?tr10
    case ty10 => (intro wv hSv; obtain ⟨hc1, hc2, hc15, hln⟩ := hSv; go_simp <;> with_reducible rfl)
    try simp only [Act.put, List.setIfInBounds_toArray, List.set_cons_zero, List.set_cons_succ]
    refine wpAnyH_take (i := 12) (v := ?tv11) rfl (by kernel_rfl) (by kernel_rfl) (by kernel_rfl) (fun _ _ _ h => h) (Or.inl ⟨by rfl, ?ty11⟩) (by assumption) ?tr11
    case ty11 => (intro wv hSv; obtain ⟨hc1, hc2, hc15, hln⟩ := hSv; go_simp <;> with_reducible rfl)
    try simp only [Act.put, List.setIfInBounds_toArray, List.set_cons_zero, List.set_cons_succ]
    refine wpAnyH_take (i := 13) (v := ?tv12) rfl (by kernel_rfl) (by kernel_rfl) (by kernel_rfl) (fun _ _ _ h => h) (Or.inl ⟨by rfl, ?ty12⟩) (by assumption) ?tr12
    case ty12 => (intro wv hSv; obtain ⟨hc1, hc2, hc15, hln⟩ := hSv; go_simp <;> with_reducible rfl)
    try simp only [Act.put, List.setIfInBounds_toArray, List.set_cons_zero, List.set_cons_succ]
    refine wpAnyH_take (i := 18) (v := ?tv13) rfl (by kernel_rfl) (by kernel_rfl) (by kernel_rfl) (fun _ _ _ h => h) (Or.inl ⟨by rfl, ?ty13⟩) (by assumption) ?tr13
    case ty13 => (intro wv hSv; obtain ⟨hc1, hc2, hc15, hln⟩ := hSv; go_simp <;> with_reducible rfl)
    try simp only [Act.put, List.setIfInBounds_toArray, List.set_cons_zero, List.set_cons_succ]
    refine wpAnyH_take (i := 19) (v := ?tv14) rfl (by kernel_rfl) (by kernel_rfl) (by kernel_rfl) (fun _ _ _ h => h) (Or.inl ⟨by rfl, ?ty14⟩) (by assumption) ?tr14
    case ty14 => (intro wv hSv; obtain ⟨hc1, hc2, hc15, hln⟩ := hSv; go_simp <;> with_reducible rfl)
    try simp only [Act.put, List.setIfInBounds_toArray, List.set_cons_zero, List.set_cons_succ]
    refine wpAnyH_take (i := 20) (v := ?tv15) rfl (by kernel_rfl) (by kernel_rfl) (by kernel_rfl) (fun _ _ _ h => h) (Or.inl ⟨by rfl, ?ty15⟩) (by assumption) ?tr15
    case ty15 => (intro wv hSv; obtain ⟨hc1, hc2, hc15, hln⟩ := hSv; go_simp <;> with_reducible rfl)
    try simp only [Act.put, List.setIfInBounds_toArray, List.set_cons_zero, List.set_cons_succ]
    refine wpAnyH_take (i := 21) (v := ?tv16) rfl (by kernel_rfl) (by kernel_rfl) (by kernel_rfl) (fun _ _ _ h => h) (Or.inl ⟨by rfl, ?ty16⟩) (by assumption) ?tr16
    case ty16 => (intro wv hSv; obtain ⟨hc1, hc2, hc15, hln⟩ := hSv; go_simp <;> with_reducible rfl)
    try simp only [Act.put, List.setIfInBounds_toArray, List.set_cons_zero, List.set_cons_succ]
    refine wpAnyH_take (i := 23) (v := ?tv17) rfl (by kernel_rfl) (by kernel_rfl) (by kernel_rfl) (fun _ _ _ h => h) (Or.inl ⟨by rfl, ?ty17⟩) (by assumption) ?tr17
    case ty17 => (intro wv hSv; obtain ⟨hc1, hc2, hc15, hln⟩ := hSv; go_simp <;> with_reducible rfl)
    try simp only [Act.put, List.setIfInBounds_toArray, List.set_cons_zero, List.set_cons_succ]
    refine wpAnyH_ready (rs := [6, 26]) (by kernel_rfl) (by simp) ?_
    refine AllReadyH.cons rfl (fun K hK => ?sA18) (AllReadyH.cons rfl (fun K hK => ?sB18) AllReadyH.nil)
    case sA18 =>
      go_simp
      refine (rpick _ _ _ Hd.out (by omega)).mono ?_
      rintro _ _ ⟨rfl, rfl⟩
      first | refine hK.out _ _ (HSs.out _ HB0.out) (fun hHeld => ?_) | (go_wp2_with fail; refine hK.out _ _ (HSs.out _ HB0.out) (fun hHeld => ?_))
      clear hK K
      try simp only [Act.put, List.setIfInBounds_toArray, List.set_cons_zero, List.set_cons_succ]
      refine wpAnyH_ready (rs := [7, 26]) (by kernel_rfl) (by simp) ?_
      refine AllReadyH.cons rfl (fun K hK => ?sA20) (AllReadyH.cons rfl (fun K hK => ?sB20) AllReadyH.nil)
      case sA20 =>
        go_simp
        refine (rnames _).mono ?_
        rintro _ w21 ⟨gn, rfl, hb21, hn21⟩
        have HB21 : Hid (Below wr.heap.size wr w21) := bl_trans HB0.out hb21
        have HN21 := hide hn21
        clear hb21 hn21
        first | refine hK.out _ _ (HSs.out _ HB21.out) (fun hHeld => ?_) | (go_wp2_with fail; refine hK.out _ _ (HSs.out _ HB21.out) (fun hHeld => ?_))
        clear hK K
        try simp only [Act.put, List.setIfInBounds_toArray, List.set_cons_zero, List.set_cons_succ]
        refine wpAnyH_mono (S' := fun w' => SubT w' gr cm dn N rn gn (pickN tI N) x) (fun _ h => h.s) _ _ _ _ ?_
        have hHeld : SubT w21 gr cm dn N rn gn (pickN tI N) x := (HTs.out _ _ HB21.out HN21.out)
        refine wpAnyH_take (i := 14) (v := ?tv22) rfl (by kernel_rfl) (by kernel_rfl) (by kernel_rfl) (fun _ _ _ h => h) (Or.inl ⟨by rfl, ?ty22⟩) (by assumption) ?tr22
        case ty22 => (intro wv hSv; obtain ⟨⟨hc1, hc2, hc15, hln⟩, hcn⟩ := hSv; go_simp <;> with_reducible rfl)
        try simp only [Act.put, List.setIfInBounds_toArray, List.set_cons_zero, List.set_cons_succ]
        refine wpAnyH_ready (rs := [15, 26]) (by kernel_rfl) (by simp) ?_
        refine AllReadyH.cons rfl (fun K hK => ?sA23) (AllReadyH.cons rfl (fun K hK => ?sB23) AllReadyH.nil)
        case sA23 =>
          go_simp
          refine (rpick _ _ _ HtI.out (by omega)).mono ?_
          rintro _ _ ⟨rfl, rfl⟩
          first | refine hK.out _ _ (HTs.out _ _ HB21.out HN21.out) (fun hHeld => ?_) | (go_wp2_with fail; refine hK.out _ _ (HTs.out _ _ HB21.out HN21.out) (fun hHeld => ?_))
          clear hK K
          try simp only [Act.put, List.setIfInBounds_toArray, List.set_cons_zero, List.set_cons_succ]
          refine wpAnyH_take (i := 16) (v := ?tv25) rfl (by kernel_rfl) (by kernel_rfl) (by kernel_rfl) (fun _ _ _ h => h) (Or.inl ⟨by rfl, ?ty25⟩) (by assumption) ?tr25
          case ty25 => (intro wv hSv; obtain ⟨⟨hc1, hc2, hc15, hln⟩, hcn⟩ := hSv; go_simp <;> with_reducible rfl)
          try simp only [Act.put, List.setIfInBounds_toArray, List.set_cons_zero, List.set_cons_succ]
          refine wpAnyH_take (i := 17) (v := ?tv26) rfl (by kernel_rfl) (by kernel_rfl) (by kernel_rfl) (fun _ _ _ h => h) (Or.inl ⟨by rfl, ?ty26⟩) (by assumption) ?tr26
          case ty26 => (intro wv hSv; obtain ⟨⟨hc1, hc2, hc15, hln⟩, hcn⟩ := hSv; go_simp <;> with_reducible rfl)
          try simp only [Act.put, List.setIfInBounds_toArray, List.set_cons_zero, List.set_cons_succ]
          refine wpAnyH_ready (rs := [22, 26]) (by kernel_rfl) (by simp) ?_
          refine AllReadyH.cons rfl (fun K hK => ?sA27) (AllReadyH.cons rfl (fun K hK => ?sB27) AllReadyH.nil)
          case sA27 =>
            go_simp
            refine (kid_any rn _ (by omega)).mono ?_
            rintro _ w28 ⟨rfl, hb28⟩
            have HB28 : Hid (Below wr.heap.size wr w28) := bl_trans HB21.out hb28
            have HN28 : Hid (NmAt w28 gn) := Blk.below HN21.out hb28 (Blk.lt HN21.out)
            clear hb28
            first | refine hK.out _ _ (HTs.out _ _ HB28.out HN28.out) (fun hHeld => ?_) | (go_wp2_with fail; refine hK.out _ _ (HTs.out _ _ HB28.out HN28.out) (fun hHeld => ?_))
            clear hK K
            try simp only [Act.put, List.setIfInBounds_toArray, List.set_cons_zero, List.set_cons_succ]
            refine wpAnyH_ready (rs := [24, 26]) (by kernel_rfl) (by simp) ?_
            refine AllReadyH.cons rfl (fun K hK => ?sA29) (AllReadyH.cons rfl (fun K hK => ?sB29) AllReadyH.nil)
            case sA29 =>
              go_simp
              refine (kbody_any size _ (by omega)).mono ?_
              rintro _ w30 ⟨rfl, hb30⟩
              have HB30 : Hid (Below wr.heap.size wr w30) := bl_trans HB28.out hb30
              have HN30 : Hid (NmAt w30 gn) := Blk.below HN28.out hb30 (Blk.lt HN28.out)
              clear hb30
              first | refine hK.out _ _ (HTs.out _ _ HB30.out HN30.out) (fun hHeld => ?_) | (go_wp2_with fail; refine hK.out _ _ (HTs.out _ _ HB30.out HN30.out) (fun hHeld => ?_))
              clear hK K
              try simp only [Act.put, List.setIfInBounds_toArray, List.set_cons_zero, List.set_cons_succ]
              refine wpAnyH_take (i := 25) (v := ?tv31) rfl (by kernel_rfl) (by kernel_rfl) (by kernel_rfl) (fun _ _ _ h => h) (Or.inl ⟨by rfl, ?ty31⟩) (by assumption) ?tr31
              case ty31 => (intro wv hSv; obtain ⟨⟨hc1, hc2, hc15, hln⟩, hcn⟩ := hSv; go_simp <;> with_reducible rfl)
              try simp only [Act.put, List.setIfInBounds_toArray, List.set_cons_zero, List.set_cons_succ]
              refine wpAnyH_ready (rs := [26]) (by kernel_rfl) (by simp) ?_
              refine AllReadyH.cons rfl (fun K hK => ?sA32) AllReadyH.nil
              go_simp
              refine held_on hK (HTs.out _ _ (below_alloc HB30.out _) (Blk.alloc HN30.out _)) (fun w33 hw33 => ?_)
              clear hK K
              have HB33 : Hid (Below wr.heap.size wr w33) := by rw [hw33]; exact below_alloc HB30.out _
              have HZ33 : Hid (Blk w33 w30.heap.size batZero 48) := by rw [hw33]; exact Blk.new w30 _ _
              have hge33 : wr.heap.size ≤ w30.heap.size := HB30.out.size
              have HN33 : Hid (NmAt w33 gn) := by rw [hw33]; exact Blk.alloc HN30.out _
              clear hw33
              have hHeld := (HTs.out _ _ HB33.out HN33.out)
              try simp only [Act.put, List.setIfInBounds_toArray, List.set_cons_zero, List.set_cons_succ]
              refine wpAnyH_ready (rs := [27]) (by kernel_rfl) (by simp) ?_
              refine AllReadyH.cons rfl (fun K hK => ?sA34) AllReadyH.nil
              obtain ⟨x0, x1, x2, x3, y0, y1, y2, y3⟩ := Zd.of HZ33.out
              go_simp
              refine held_on hK (HTs.out _ _ (zd_below HB33.out hge33 _ _ _ _) (zd_names HN33.out HZ33.out _ _ _ _)) (fun we hwe => ?_)
              clear hK K
              try simp only [Act.put, List.setIfInBounds_toArray, List.set_cons_zero, List.set_cons_succ]
              refine wpAnyH_done (by kernel_rfl) ?_ _
              refine NoPanic.normal ?_
              have HF : Hid (NewBat wr (pickN dI dn) x rn size (.pointer (some ⟨w30.heap.size, 0, none⟩)) we) := by rw [hwe]; exact zd_filled HZ33.out HB33.out hge33 (pickN dI dn) x rn size
              clear hwe
              try go_wp2_with fail
              go_meet
              exact HF.out
            case sB29 =>
              go_simp
              refine held_on hK (HTs.out _ _ (below_alloc HB28.out _) (Blk.alloc HN28.out _)) (fun w35 hw35 => ?_)
              clear hK K
              have HB35 : Hid (Below wr.heap.size wr w35) := by rw [hw35]; exact below_alloc HB28.out _
              have HZ35 : Hid (Blk w35 w28.heap.size batZero 48) := by rw [hw35]; exact Blk.new w28 _ _
              have hge35 : wr.heap.size ≤ w28.heap.size := HB28.out.size
              have HN35 : Hid (NmAt w35 gn) := by rw [hw35]; exact Blk.alloc HN28.out _
              clear hw35
              have hHeld := (HTs.out _ _ HB35.out HN35.out)
              try simp only [Act.put, List.setIfInBounds_toArray, List.set_cons_zero, List.set_cons_succ]
              refine wpAnyH_ready (rs := [24]) (by kernel_rfl) (by simp) ?_
              refine AllReadyH.cons rfl (fun K hK => ?sA36) AllReadyH.nil
              go_simp
              refine (kbody_any size _ (by omega)).mono ?_
              rintro _ w37 ⟨rfl, hb37⟩
              have HB37 : Hid (Below wr.heap.size wr w37) := bl_trans HB35.out hb37
              have HZ37 : Hid (Blk w37 w28.heap.size batZero 48) := HZ35.out.below hb37 HZ35.out.lt
              have HN37 : Hid (NmAt w37 gn) := Blk.below HN35.out hb37 (Blk.lt HN35.out)
              clear hb37
              first | refine hK.out _ _ (HTs.out _ _ HB37.out HN37.out) (fun hHeld => ?_) | (go_wp2_with fail; refine hK.out _ _ (HTs.out _ _ HB37.out HN37.out) (fun hHeld => ?_))
              clear hK K
              try simp only [Act.put, List.setIfInBounds_toArray, List.set_cons_zero, List.set_cons_succ]
              refine wpAnyH_take (i := 25) (v := ?tv38) rfl (by kernel_rfl) (by kernel_rfl) (by kernel_rfl) (fun _ _ _ h => h) (Or.inl ⟨by rfl, ?ty38⟩) (by assumption) ?tr38
              case ty38 => (intro wv hSv; obtain ⟨⟨hc1, hc2, hc15, hln⟩, hcn⟩ := hSv; go_simp <;> with_reducible rfl)
              try simp only [Act.put, List.setIfInBounds_toArray, List.set_cons_zero, List.set_cons_succ]
              refine wpAnyH_ready (rs := [27]) (by kernel_rfl) (by simp) ?_
              refine AllReadyH.cons rfl (fun K hK => ?sA39) AllReadyH.nil
              obtain ⟨x0, x1, x2, x3, y0, y1, y2, y3⟩ := Zd.of HZ37.out
              go_simp
              refine held_on hK (HTs.out _ _ (zd_below HB37.out hge35 _ _ _ _) (zd_names HN37.out HZ37.out _ _ _ _)) (fun we hwe => ?_)
              clear hK K
              try simp only [Act.put, List.setIfInBounds_toArray, List.set_cons_zero, List.set_cons_succ]
              refine wpAnyH_done (by kernel_rfl) ?_ _
              refine NoPanic.normal ?_
              have HF : Hid (NewBat wr (pickN dI dn) x rn size (.pointer (some ⟨w28.heap.size, 0, none⟩)) we) := by rw [hwe]; exact zd_filled HZ37.out HB37.out hge35 (pickN dI dn) x rn size
              clear hwe
              try go_wp2_with fail
              go_meet
              exact HF.out
          case sB27 =>
            go_simp
            refine held_on hK (HTs.out _ _ (below_alloc HB21.out _) (Blk.alloc HN21.out _)) (fun w40 hw40 => ?_)
            clear hK K
            have HB40 : Hid (Below wr.heap.size wr w40) := by rw [hw40]; exact below_alloc HB21.out _
            have HZ40 : Hid (Blk w40 w21.heap.size batZero 48) := by rw [hw40]; exact Blk.new w21 _ _
            have hge40 : wr.heap.size ≤ w21.heap.size := HB21.out.size
            have HN40 : Hid (NmAt w40 gn) := by rw [hw40]; exact Blk.alloc HN21.out _
            clear hw40
            have hHeld := (HTs.out _ _ HB40.out HN40.out)
            try simp only [Act.put, List.setIfInBounds_toArray, List.set_cons_zero, List.set_cons_succ]
            refine wpAnyH_ready (rs := [22]) (by kernel_rfl) (by simp) ?_
            refine AllReadyH.cons rfl (fun K hK => ?sA41) AllReadyH.nil
            go_simp
            refine (kid_any rn _ (by omega)).mono ?_
            rintro _ w42 ⟨rfl, hb42⟩
            have HB42 : Hid (Below wr.heap.size wr w42) := bl_trans HB40.out hb42
            have HZ42 : Hid (Blk w42 w21.heap.size batZero 48) := HZ40.out.below hb42 HZ40.out.lt
            have HN42 : Hid (NmAt w42 gn) := Blk.below HN40.out hb42 (Blk.lt HN40.out)
            clear hb42
            first | refine hK.out _ _ (HTs.out _ _ HB42.out HN42.out) (fun hHeld => ?_) | (go_wp2_with fail; refine hK.out _ _ (HTs.out _ _ HB42.out HN42.out) (fun hHeld => ?_))
            clear hK K
            try simp only [Act.put, List.setIfInBounds_toArray, List.set_cons_zero, List.set_cons_succ]
            refine wpAnyH_ready (rs := [24]) (by kernel_rfl) (by simp) ?_
            refine AllReadyH.cons rfl (fun K hK => ?sA43) AllReadyH.nil
            go_simp
            refine (kbody_any size _ (by omega)).mono ?_
            rintro _ w44 ⟨rfl, hb44⟩
            have HB44 : Hid (Below wr.heap.size wr w44) := bl_trans HB42.out hb44
            have HZ44 : Hid (Blk w44 w21.heap.size batZero 48) := HZ42.out.below hb44 HZ42.out.lt
            have HN44 : Hid (NmAt w44 gn) := Blk.below HN42.out hb44 (Blk.lt HN42.out)
            clear hb44
            first | refine hK.out _ _ (HTs.out _ _ HB44.out HN44.out) (fun hHeld => ?_) | (go_wp2_with fail; refine hK.out _ _ (HTs.out _ _ HB44.out HN44.out) (fun hHeld => ?_))
            clear hK K
            try simp only [Act.put, List.setIfInBounds_toArray, List.set_cons_zero, List.set_cons_succ]
            refine wpAnyH_take (i := 25) (v := ?tv45) rfl (by kernel_rfl) (by kernel_rfl) (by kernel_rfl) (fun _ _ _ h => h) (Or.inl ⟨by rfl, ?ty45⟩) (by assumption) ?tr45
            case ty45 => (intro wv hSv; obtain ⟨⟨hc1, hc2, hc15, hln⟩, hcn⟩ := hSv; go_simp <;> with_reducible rfl)
            try simp only [Act.put, List.setIfInBounds_toArray, List.set_cons_zero, List.set_cons_succ]
            refine wpAnyH_ready (rs := [27]) (by kernel_rfl) (by simp) ?_
            refine AllReadyH.cons rfl (fun K hK => ?sA46) AllReadyH.nil
            obtain ⟨x0, x1, x2, x3, y0, y1, y2, y3⟩ := Zd.of HZ44.out
            go_simp
            refine held_on hK (HTs.out _ _ (zd_below HB44.out hge40 _ _ _ _) (zd_names HN44.out HZ44.out _ _ _ _)) (fun we hwe => ?_)
            clear hK K
            try simp only [Act.put, List.setIfInBounds_toArray, List.set_cons_zero, List.set_cons_succ]
            refine wpAnyH_done (by kernel_rfl) ?_ _
            refine NoPanic.normal ?_
            have HF : Hid (NewBat wr (pickN dI dn) x rn size (.pointer (some ⟨w21.heap.size, 0, none⟩)) we) := by rw [hwe]; exact zd_filled HZ44.out HB44.out hge40 (pickN dI dn) x rn size
            clear hwe
            try go_wp2_with fail
            go_meet
            exact HF.out
        case sB23 =>
          go_simp
          refine held_on hK (HTs.out _ _ (below_alloc HB21.out _) (Blk.alloc HN21.out _)) (fun w47 hw47 => ?_)
          clear hK K
          have HB47 : Hid (Below wr.heap.size wr w47) := by rw [hw47]; exact below_alloc HB21.out _
          have HZ47 : Hid (Blk w47 w21.heap.size batZero 48) := by rw [hw47]; exact Blk.new w21 _ _
          have hge47 : wr.heap.size ≤ w21.heap.size := HB21.out.size
          have HN47 : Hid (NmAt w47 gn) := by rw [hw47]; exact Blk.alloc HN21.out _
          clear hw47
          have hHeld := (HTs.out _ _ HB47.out HN47.out)
          try simp only [Act.put, List.setIfInBounds_toArray, List.set_cons_zero, List.set_cons_succ]
          refine wpAnyH_ready (rs := [15]) (by kernel_rfl) (by simp) ?_
          refine AllReadyH.cons rfl (fun K hK => ?sA48) AllReadyH.nil
          go_simp
          refine (rpick _ _ _ HtI.out (by omega)).mono ?_
          rintro _ _ ⟨rfl, rfl⟩
          first | refine hK.out _ _ (HTs.out _ _ HB47.out HN47.out) (fun hHeld => ?_) | (go_wp2_with fail; refine hK.out _ _ (HTs.out _ _ HB47.out HN47.out) (fun hHeld => ?_))
          clear hK K
          try simp only [Act.put, List.setIfInBounds_toArray, List.set_cons_zero, List.set_cons_succ]
          refine wpAnyH_take (i := 16) (v := ?tv50) rfl (by kernel_rfl) (by kernel_rfl) (by kernel_rfl) (fun _ _ _ h => h) (Or.inl ⟨by rfl, ?ty50⟩) (by assumption) ?tr50
          case ty50 => (intro wv hSv; obtain ⟨⟨hc1, hc2, hc15, hln⟩, hcn⟩ := hSv; go_simp <;> with_reducible rfl)
          try simp only [Act.put, List.setIfInBounds_toArray, List.set_cons_zero, List.set_cons_succ]
          refine wpAnyH_take (i := 17) (v := ?tv51) rfl (by kernel_rfl) (by kernel_rfl) (by kernel_rfl) (fun _ _ _ h => h) (Or.inl ⟨by rfl, ?ty51⟩) (by assumption) ?tr51
          case ty51 => (intro wv hSv; obtain ⟨⟨hc1, hc2, hc15, hln⟩, hcn⟩ := hSv; go_simp <;> with_reducible rfl)
          try simp only [Act.put, List.setIfInBounds_toArray, List.set_cons_zero, List.set_cons_succ]
          refine wpAnyH_ready (rs := [22]) (by kernel_rfl) (by simp) ?_
          refine AllReadyH.cons rfl (fun K hK => ?sA52) AllReadyH.nil
          go_simp
          refine (kid_any rn _ (by omega)).mono ?_
          rintro _ w53 ⟨rfl, hb53⟩
          have HB53 : Hid (Below wr.heap.size wr w53) := bl_trans HB47.out hb53
          have HZ53 : Hid (Blk w53 w21.heap.size batZero 48) := HZ47.out.below hb53 HZ47.out.lt
          have HN53 : Hid (NmAt w53 gn) := Blk.below HN47.out hb53 (Blk.lt HN47.out)
          clear hb53
          first | refine hK.out _ _ (HTs.out _ _ HB53.out HN53.out) (fun hHeld => ?_) | (go_wp2_with fail; refine hK.out _ _ (HTs.out _ _ HB53.out HN53.out) (fun hHeld => ?_))
          clear hK K
          try simp only [Act.put, List.setIfInBounds_toArray, List.set_cons_zero, List.set_cons_succ]
          refine wpAnyH_ready (rs := [24]) (by kernel_rfl) (by simp) ?_
          refine AllReadyH.cons rfl (fun K hK => ?sA54) AllReadyH.nil
          go_simp
          refine (kbody_any size _ (by omega)).mono ?_
          rintro _ w55 ⟨rfl, hb55⟩
          have HB55 : Hid (Below wr.heap.size wr w55) := bl_trans HB53.out hb55
          have HZ55 : Hid (Blk w55 w21.heap.size batZero 48) := HZ53.out.below hb55 HZ53.out.lt
          have HN55 : Hid (NmAt w55 gn) := Blk.below HN53.out hb55 (Blk.lt HN53.out)
          clear hb55
          first | refine hK.out _ _ (HTs.out _ _ HB55.out HN55.out) (fun hHeld => ?_) | (go_wp2_with fail; refine hK.out _ _ (HTs.out _ _ HB55.out HN55.out) (fun hHeld => ?_))
          clear hK K
          try simp only [Act.put, List.setIfInBounds_toArray, List.set_cons_zero, List.set_cons_succ]
          refine wpAnyH_take (i := 25) (v := ?tv56) rfl (by kernel_rfl) (by kernel_rfl) (by kernel_rfl) (fun _ _ _ h => h) (Or.inl ⟨by rfl, ?ty56⟩) (by assumption) ?tr56
          case ty56 => (intro wv hSv; obtain ⟨⟨hc1, hc2, hc15, hln⟩, hcn⟩ := hSv; go_simp <;> with_reducible rfl)
          try simp only [Act.put, List.setIfInBounds_toArray, List.set_cons_zero, List.set_cons_succ]
          refine wpAnyH_ready (rs := [27]) (by kernel_rfl) (by simp) ?_
          refine AllReadyH.cons rfl (fun K hK => ?sA57) AllReadyH.nil
          obtain ⟨x0, x1, x2, x3, y0, y1, y2, y3⟩ := Zd.of HZ55.out
          go_simp
          refine held_on hK (HTs.out _ _ (zd_below HB55.out hge47 _ _ _ _) (zd_names HN55.out HZ55.out _ _ _ _)) (fun we hwe => ?_)
          clear hK K
          try simp only [Act.put, List.setIfInBounds_toArray, List.set_cons_zero, List.set_cons_succ]
          refine wpAnyH_done (by kernel_rfl) ?_ _
          refine NoPanic.normal ?_
          have HF : Hid (NewBat wr (pickN dI dn) x rn size (.pointer (some ⟨w21.heap.size, 0, none⟩)) we) := by rw [hwe]; exact zd_filled HZ55.out HB55.out hge47 (pickN dI dn) x rn size
          clear hwe
          try go_wp2_with fail
          go_meet
          exact HF.out
      case sB20 =>
        go_simp
        refine held_on hK (HSs.out _ ((below_alloc (Below.refl _ wr) _).drew)) (fun w58 hw58 => ?_)
        clear hK K
        have HB58 : Hid (Below wr.heap.size wr w58) := by rw [hw58]; exact (below_alloc (Below.refl _ wr) _).drew
        have HZ58 : Hid (Blk w58 wr.heap.size batZero 48) := by rw [hw58]; exact Blk.new wr _ _
        have hge58 : wr.heap.size ≤ wr.heap.size := Nat.le_refl _
        clear hw58
        have hHeld := (HSs.out _ HB58.out)
        try simp only [Act.put, List.setIfInBounds_toArray, List.set_cons_zero, List.set_cons_succ]
        refine wpAnyH_ready (rs := [7]) (by kernel_rfl) (by simp) ?_
        refine AllReadyH.cons rfl (fun K hK => ?sA59) AllReadyH.nil
        go_simp
        refine (rnames _).mono ?_
        rintro _ w60 ⟨gn, rfl, hb60, hn60⟩
        have HB60 : Hid (Below wr.heap.size wr w60) := bl_trans HB58.out hb60
        have HZ60 : Hid (Blk w60 wr.heap.size batZero 48) := HZ58.out.below hb60 HZ58.out.lt
        have HN60 := hide hn60
        clear hb60 hn60
        first | refine hK.out _ _ (HSs.out _ HB60.out) (fun hHeld => ?_) | (go_wp2_with fail; refine hK.out _ _ (HSs.out _ HB60.out) (fun hHeld => ?_))
        clear hK K
        try simp only [Act.put, List.setIfInBounds_toArray, List.set_cons_zero, List.set_cons_succ]
        refine wpAnyH_mono (S' := fun w' => SubT w' gr cm dn N rn gn (pickN tI N) x) (fun _ h => h.s) _ _ _ _ ?_
        have hHeld : SubT w60 gr cm dn N rn gn (pickN tI N) x := (HTs.out _ _ HB60.out HN60.out)
        refine wpAnyH_take (i := 14) (v := ?tv61) rfl (by kernel_rfl) (by kernel_rfl) (by kernel_rfl) (fun _ _ _ h => h) (Or.inl ⟨by rfl, ?ty61⟩) (by assumption) ?tr61
        case ty61 => (intro wv hSv; obtain ⟨⟨hc1, hc2, hc15, hln⟩, hcn⟩ := hSv; go_simp <;> with_reducible rfl)
        try simp only [Act.put, List.setIfInBounds_toArray, List.set_cons_zero, List.set_cons_succ]
        refine wpAnyH_ready (rs := [15]) (by kernel_rfl) (by simp) ?_
        refine AllReadyH.cons rfl (fun K hK => ?sA62) AllReadyH.nil
        go_simp
        refine (rpick _ _ _ HtI.out (by omega)).mono ?_
        rintro _ _ ⟨rfl, rfl⟩
        first | refine hK.out _ _ (HTs.out _ _ HB60.out HN60.out) (fun hHeld => ?_) | (go_wp2_with fail; refine hK.out _ _ (HTs.out _ _ HB60.out HN60.out) (fun hHeld => ?_))
        clear hK K
        try simp only [Act.put, List.setIfInBounds_toArray, List.set_cons_zero, List.set_cons_succ]
        refine wpAnyH_take (i := 16) (v := ?tv64) rfl (by kernel_rfl) (by kernel_rfl) (by kernel_rfl) (fun _ _ _ h => h) (Or.inl ⟨by rfl, ?ty64⟩) (by assumption) ?tr64
        case ty64 => (intro wv hSv; obtain ⟨⟨hc1, hc2, hc15, hln⟩, hcn⟩ := hSv; go_simp <;> with_reducible rfl)
        try simp only [Act.put, List.setIfInBounds_toArray, List.set_cons_zero, List.set_cons_succ]
        refine wpAnyH_take (i := 17) (v := ?tv65) rfl (by kernel_rfl) (by kernel_rfl) (by kernel_rfl) (fun _ _ _ h => h) (Or.inl ⟨by rfl, ?ty65⟩) (by assumption) ?tr65
        case ty65 => (intro wv hSv; obtain ⟨⟨hc1, hc2, hc15, hln⟩, hcn⟩ := hSv; go_simp <;> with_reducible rfl)
        try simp only [Act.put, List.setIfInBounds_toArray, List.set_cons_zero, List.set_cons_succ]
        refine wpAnyH_ready (rs := [22]) (by kernel_rfl) (by simp) ?_
        refine AllReadyH.cons rfl (fun K hK => ?sA66) AllReadyH.nil
        go_simp
        refine (kid_any rn _ (by omega)).mono ?_
        rintro _ w67 ⟨rfl, hb67⟩
        have HB67 : Hid (Below wr.heap.size wr w67) := bl_trans HB60.out hb67
        have HZ67 : Hid (Blk w67 wr.heap.size batZero 48) := HZ60.out.below hb67 HZ60.out.lt
        have HN67 : Hid (NmAt w67 gn) := Blk.below HN60.out hb67 (Blk.lt HN60.out)
        clear hb67
        first | refine hK.out _ _ (HTs.out _ _ HB67.out HN67.out) (fun hHeld => ?_) | (go_wp2_with fail; refine hK.out _ _ (HTs.out _ _ HB67.out HN67.out) (fun hHeld => ?_))
        clear hK K
        try simp only [Act.put, List.setIfInBounds_toArray, List.set_cons_zero, List.set_cons_succ]
        refine wpAnyH_ready (rs := [24]) (by kernel_rfl) (by simp) ?_
        refine AllReadyH.cons rfl (fun K hK => ?sA68) AllReadyH.nil
        go_simp
        refine (kbody_any size _ (by omega)).mono ?_
        rintro _ w69 ⟨rfl, hb69⟩
        have HB69 : Hid (Below wr.heap.size wr w69) := bl_trans HB67.out hb69
        have HZ69 : Hid (Blk w69 wr.heap.size batZero 48) := HZ67.out.below hb69 HZ67.out.lt
        have HN69 : Hid (NmAt w69 gn) := Blk.below HN67.out hb69 (Blk.lt HN67.out)
        clear hb69
        first | refine hK.out _ _ (HTs.out _ _ HB69.out HN69.out) (fun hHeld => ?_) | (go_wp2_with fail; refine hK.out _ _ (HTs.out _ _ HB69.out HN69.out) (fun hHeld => ?_))
        clear hK K
        try simp only [Act.put, List.setIfInBounds_toArray, List.set_cons_zero, List.set_cons_succ]
        refine wpAnyH_take (i := 25) (v := ?tv70) rfl (by kernel_rfl) (by kernel_rfl) (by kernel_rfl) (fun _ _ _ h => h) (Or.inl ⟨by rfl, ?ty70⟩) (by assumption) ?tr70
        case ty70 => (intro wv hSv; obtain ⟨⟨hc1, hc2, hc15, hln⟩, hcn⟩ := hSv; go_simp <;> with_reducible rfl)
        try simp only [Act.put, List.setIfInBounds_toArray, List.set_cons_zero, List.set_cons_succ]
        refine wpAnyH_ready (rs := [27]) (by kernel_rfl) (by simp) ?_
        refine AllReadyH.cons rfl (fun K hK => ?sA71) AllReadyH.nil
        obtain ⟨x0, x1, x2, x3, y0, y1, y2, y3⟩ := Zd.of HZ69.out
        go_simp
        refine held_on hK (HTs.out _ _ (zd_below HB69.out hge58 _ _ _ _) (zd_names HN69.out HZ69.out _ _ _ _)) (fun we hwe => ?_)
        clear hK K
        try simp only [Act.put, List.setIfInBounds_toArray, List.set_cons_zero, List.set_cons_succ]
        refine wpAnyH_done (by kernel_rfl) ?_ _
        refine NoPanic.normal ?_
        have HF : Hid (NewBat wr (pickN dI dn) x rn size (.pointer (some ⟨wr.heap.size, 0, none⟩)) we) := by rw [hwe]; exact zd_filled HZ69.out HB69.out hge58 (pickN dI dn) x rn size
        clear hwe
        try go_wp2_with fail
        go_meet
        exact HF.out
    case sB18 =>
      go_simp
      refine held_on hK (HSs.out _ ((below_alloc (Below.refl _ wr) _).drew)) (fun w72 hw72 => ?_)
      clear hK K
      have HB72 : Hid (Below wr.heap.size wr w72) := by rw [hw72]; exact (below_alloc (Below.refl _ wr) _).drew
      have HZ72 : Hid (Blk w72 wr.heap.size batZero 48) := by rw [hw72]; exact Blk.new wr _ _
      have hge72 : wr.heap.size ≤ wr.heap.size := Nat.le_refl _
      clear hw72
      have hHeld := (HSs.out _ HB72.out)
      try simp only [Act.put, List.setIfInBounds_toArray, List.set_cons_zero, List.set_cons_succ]
      refine wpAnyH_ready (rs := [6]) (by kernel_rfl) (by simp) ?_
      refine AllReadyH.cons rfl (fun K hK => ?sA73) AllReadyH.nil
      go_simp
      refine (rpick _ _ _ Hd.out (by omega)).mono ?_
      rintro _ _ ⟨rfl, rfl⟩
      first | refine hK.out _ _ (HSs.out _ HB72.out) (fun hHeld => ?_) | (go_wp2_with fail; refine hK.out _ _ (HSs.out _ HB72.out) (fun hHeld => ?_))
      clear hK K
      try simp only [Act.put, List.setIfInBounds_toArray, List.set_cons_zero, List.set_cons_succ]
      refine wpAnyH_ready (rs := [7]) (by kernel_rfl) (by simp) ?_
      refine AllReadyH.cons rfl (fun K hK => ?sA75) AllReadyH.nil
      go_simp
      refine (rnames _).mono ?_
      rintro _ w76 ⟨gn, rfl, hb76, hn76⟩
      have HB76 : Hid (Below wr.heap.size wr w76) := bl_trans HB72.out hb76
      have HZ76 : Hid (Blk w76 wr.heap.size batZero 48) := HZ72.out.below hb76 HZ72.out.lt
      have HN76 := hide hn76
      clear hb76 hn76
      first | refine hK.out _ _ (HSs.out _ HB76.out) (fun hHeld => ?_) | (go_wp2_with fail; refine hK.out _ _ (HSs.out _ HB76.out) (fun hHeld => ?_))
      clear hK K
      try simp only [Act.put, List.setIfInBounds_toArray, List.set_cons_zero, List.set_cons_succ]
      refine wpAnyH_mono (S' := fun w' => SubT w' gr cm dn N rn gn (pickN tI N) x) (fun _ h => h.s) _ _ _ _ ?_
      have hHeld : SubT w76 gr cm dn N rn gn (pickN tI N) x := (HTs.out _ _ HB76.out HN76.out)
      refine wpAnyH_take (i := 14) (v := ?tv77) rfl (by kernel_rfl) (by kernel_rfl) (by kernel_rfl) (fun _ _ _ h => h) (Or.inl ⟨by rfl, ?ty77⟩) (by assumption) ?tr77
      case ty77 => (intro wv hSv; obtain ⟨⟨hc1, hc2, hc15, hln⟩, hcn⟩ := hSv; go_simp <;> with_reducible rfl)
      try simp only [Act.put, List.setIfInBounds_toArray, List.set_cons_zero, List.set_cons_succ]
      refine wpAnyH_ready (rs := [15]) (by kernel_rfl) (by simp) ?_
      refine AllReadyH.cons rfl (fun K hK => ?sA78) AllReadyH.nil
      go_simp
      refine (rpick _ _ _ HtI.out (by omega)).mono ?_
      rintro _ _ ⟨rfl, rfl⟩
      first | refine hK.out _ _ (HTs.out _ _ HB76.out HN76.out) (fun hHeld => ?_) | (go_wp2_with fail; refine hK.out _ _ (HTs.out _ _ HB76.out HN76.out) (fun hHeld => ?_))
      clear hK K
      try simp only [Act.put, List.setIfInBounds_toArray, List.set_cons_zero, List.set_cons_succ]
      refine wpAnyH_take (i := 16) (v := ?tv80) rfl (by kernel_rfl) (by kernel_rfl) (by kernel_rfl) (fun _ _ _ h => h) (Or.inl ⟨by rfl, ?ty80⟩) (by assumption) ?tr80
      case ty80 => (intro wv hSv; obtain ⟨⟨hc1, hc2, hc15, hln⟩, hcn⟩ := hSv; go_simp <;> with_reducible rfl)
      try simp only [Act.put, List.setIfInBounds_toArray, List.set_cons_zero, List.set_cons_succ]
      refine wpAnyH_take (i := 17) (v := ?tv81) rfl (by kernel_rfl) (by kernel_rfl) (by kernel_rfl) (fun _ _ _ h => h) (Or.inl ⟨by rfl, ?ty81⟩) (by assumption) ?tr81
      case ty81 => (intro wv hSv; obtain ⟨⟨hc1, hc2, hc15, hln⟩, hcn⟩ := hSv; go_simp <;> with_reducible rfl)
      try simp only [Act.put, List.setIfInBounds_toArray, List.set_cons_zero, List.set_cons_succ]
      refine wpAnyH_ready (rs := [22]) (by kernel_rfl) (by simp) ?_
      refine AllReadyH.cons rfl (fun K hK => ?sA82) AllReadyH.nil
      go_simp
      refine (kid_any rn _ (by omega)).mono ?_
      rintro _ w83 ⟨rfl, hb83⟩
      have HB83 : Hid (Below wr.heap.size wr w83) := bl_trans HB76.out hb83
      have HZ83 : Hid (Blk w83 wr.heap.size batZero 48) := HZ76.out.below hb83 HZ76.out.lt
      have HN83 : Hid (NmAt w83 gn) := Blk.below HN76.out hb83 (Blk.lt HN76.out)
      clear hb83
      first | refine hK.out _ _ (HTs.out _ _ HB83.out HN83.out) (fun hHeld => ?_) | (go_wp2_with fail; refine hK.out _ _ (HTs.out _ _ HB83.out HN83.out) (fun hHeld => ?_))
      clear hK K
      try simp only [Act.put, List.setIfInBounds_toArray, List.set_cons_zero, List.set_cons_succ]
      refine wpAnyH_ready (rs := [24]) (by kernel_rfl) (by simp) ?_
      refine AllReadyH.cons rfl (fun K hK => ?sA84) AllReadyH.nil
      go_simp
      refine (kbody_any size _ (by omega)).mono ?_
      rintro _ w85 ⟨rfl, hb85⟩
      have HB85 : Hid (Below wr.heap.size wr w85) := bl_trans HB83.out hb85
      have HZ85 : Hid (Blk w85 wr.heap.size batZero 48) := HZ83.out.below hb85 HZ83.out.lt
      have HN85 : Hid (NmAt w85 gn) := Blk.below HN83.out hb85 (Blk.lt HN83.out)
      clear hb85
      first | refine hK.out _ _ (HTs.out _ _ HB85.out HN85.out) (fun hHeld => ?_) | (go_wp2_with fail; refine hK.out _ _ (HTs.out _ _ HB85.out HN85.out) (fun hHeld => ?_))
      clear hK K
      try simp only [Act.put, List.setIfInBounds_toArray, List.set_cons_zero, List.set_cons_succ]
      refine wpAnyH_take (i := 25) (v := ?tv86) rfl (by kernel_rfl) (by kernel_rfl) (by kernel_rfl) (fun _ _ _ h => h) (Or.inl ⟨by rfl, ?ty86⟩) (by assumption) ?tr86
      case ty86 => (intro wv hSv; obtain ⟨⟨hc1, hc2, hc15, hln⟩, hcn⟩ := hSv; go_simp <;> with_reducible rfl)
      try simp only [Act.put, List.setIfInBounds_toArray, List.set_cons_zero, List.set_cons_succ]
      refine wpAnyH_ready (rs := [27]) (by kernel_rfl) (by simp) ?_
      refine AllReadyH.cons rfl (fun K hK => ?sA87) AllReadyH.nil
      obtain ⟨x0, x1, x2, x3, y0, y1, y2, y3⟩ := Zd.of HZ85.out
      go_simp
      refine held_on hK (HTs.out _ _ (zd_below HB85.out hge72 _ _ _ _) (zd_names HN85.out HZ85.out _ _ _ _)) (fun we hwe => ?_)
      clear hK K
      try simp only [Act.put, List.setIfInBounds_toArray, List.set_cons_zero, List.set_cons_succ]
      refine wpAnyH_done (by kernel_rfl) ?_ _
      refine NoPanic.normal ?_
      have HF : Hid (NewBat wr (pickN dI dn) x rn size (.pointer (some ⟨wr.heap.size, 0, none⟩)) we) := by rw [hwe]; exact zd_filled HZ85.out HB85.out hge72 (pickN dI dn) x rn size
      clear hwe
      try go_wp2_with fail
      go_meet
      exact HF.out
  case rest =>
    obtain ⟨gB, rfl, hBt, hb1, hgB⟩ := hcut
    have hP1 := HPk.out wc hb1
    have hBA : BlkAt wc L none gB #[.int .i64 (pickN dI dn), encStr x, encStr (kid rn), encStr (kbody size)] 48 := ⟨hBt, HLn.out gB hgB⟩
    have HSb : Hid (∀ W, Below wc.heap.size wc W → Calls Tryz.prog 47 #[.pointer (some ⟨g, 0, none⟩), .agg #[.int .i64 (pickN dI dn), encStr x, encStr (kid rn), encStr (kbody size)]] W fun e w' => e = .returned .nilIface ∧ Turned wc L 1 g (M.submitted ⟨(pickN dI dn : Int), x, kid rn, kbody size, 1, 0⟩) w') := fun W hW => by
      have hb2 : Below wr.heap.size wr W := hb1.trans (hW.mono hb1.size)
      refine (submit_big A L 1 g t M ⟨(pickN dI dn : Int), x, kid rn, kbody size, 1, 0⟩ W (HS.out.below (HK.out.b.trans (hb2.mono HK.out.b.size))) (HK.out.ag.keep (Step.of_below (p := fun _ => False) hb2) (fun _ h => h)) HK.out.inv (by omega) ?_).mono ?_
      · show x.length ≤ maxLen
        rw [← HX.out]
        rcases (by omega : pickN tI N = 0 ∨ pickN tI N = 1 ∨ pickN tI N = 2 ∨ pickN tI N = 3) with e | e | e | e <;> rw [e] <;> simp [kn, maxLen]
      · rintro e w' ⟨rfl, L', h1, h2⟩
        rw [Href.out]
        exact ⟨rfl, L', h1, (Step.of_below hW).trans h2⟩
    have k0 : wc.cell? ⟨gr, 0, none⟩ = some (.pointer (some ⟨g, 0, none⟩)) := hP1.blk.1.cell 0
    have b0 : wc.cell? ⟨gB, 0, none⟩ = some (.int .i64 (pickN dI dn)) := hBt.cell 0
    have b1 : wc.cell? ⟨gB, 1, none⟩ = some (encStr x) := hBt.cell 1
    have b2 : wc.cell? ⟨gB, 2, none⟩ = some (encStr (kid rn)) := hBt.cell 2
    have b3 : wc.cell? ⟨gB, 3, none⟩ = some (encStr (kbody size)) := hBt.cell 3
    have HP1 := hide hP1
    have HBA := hide hBA
    have Hb1 := hide hb1
    clear hP1 hBA hBt hb1 hgB c1 c2 c15 HLen HOM HC HPk
    generalize hkb : kbody size = kb at *
    generalize hki : kid rn = ki at *
    go_wp2_with fail
    go_cut [9] (fun s9 wx => s9 = .nilIface ∧ Turned wc L 1 g (M.submitted ⟨(pickN dI dn : Int), x, ki, kb, 1, 0⟩) wx)
    case first =>
      go_region_held3 (fun w' => w'.cell? ⟨gr, 0, none⟩ = some (.pointer (some ⟨g, 0, none⟩)) ∧ w'.cell? ⟨gB, 0, none⟩ = some (.int .i64 (pickN dI dn)) ∧ w'.cell? ⟨gB, 1, none⟩ = some (encStr x) ∧ w'.cell? ⟨gB, 2, none⟩ = some (encStr ki) ∧ w'.cell? ⟨gB, 3, none⟩ = some (encStr kb)) (go_keep)
        (first | (go_at_call 47; refine (HSb.out _ (by first | exact Below.refl _ _ | exact (Below.refl _ _).drew)).mono ?_; rintro e w2 ⟨rfl, hT⟩; have HT := hide hT; obtain ⟨L2, hA2, hS2⟩ := hT; have f0 : w2.cell? ⟨gr, 0, none⟩ = some (.pointer (some ⟨g, 0, none⟩)) := (HP1.out.keep hS2 (fun q => not_ofP (by decide) q)).blk.1.cell 0; have hB2 := HBA.out.keep hS2 (fun ⟨q, e⟩ => by cases e); have g0 := hB2.1.cell 0; have g1 := hB2.1.cell 1; have g2 := hB2.1.cell 2; have g3 := hB2.1.cell 3; simp at g0 g1 g2 g3; clear hA2 hS2 hB2))
      all_goals
        go_wp2_with fail
        go_meet
        exact ⟨rfl, HT.out⟩
    case rest =>
      obtain ⟨rfl, L2, hA2, hS2⟩ := hcut
      have hP2 := HP1.out.keep hS2 (fun q => not_ofP (by decide) q)
      have hB2 := HBA.out.keep hS2 (fun ⟨q, e⟩ => by cases e)
      have d15 : wc.cell? ⟨gr, 15, none⟩ = some (.int .i64 rn) := by rw [← Hrn.out]; exact hP2.blk.1.cell 15
      have f15 : wc.frozen? ⟨gr, 15, none⟩ = false := hP2.blk.1.frozen 15
      have d16 : wc.cell? ⟨gr, 16, none⟩ = some (.bool true) := hP2.blk.1.cell 16
      have f16 : wc.frozen? ⟨gr, 16, none⟩ = false := hP2.blk.1.frozen 16
      obtain ⟨hP3, hS3⟩ := hP2.setN (rn + 1)
      obtain ⟨hP4, hS4⟩ := hP3.setOk
      rw [show ((rn + 1 : Nat) : Int) = (rn : Int) + 1 from by omega] at hS3 hP4 hS4
      have hwr : IntKind.i64.wrap ((rn : Int) + 1) = (rn : Int) + 1 := IntWalk.i64_in _ (by omega)
      have hB4 := (hB2.keep hS3 (by simp)).keep hS4 (by simp)
      have HA4 := hide ((hA2.keep hS3 (fun q e => by cases e)).keep hS4 (fun q e => by cases e))
      have HS4 := hide ((step_r0 (Step.of_below (p := ofP 0) (L := L) Hb1.out)).trans ((step_r1 hS2).trans ((step_r0 (step0 hS3)).trans (step_r0 (step0 hS4)))))
      have HP4 := hide hP4
      have HB4 := hide hB4
      clear hP2 hB2 hP3 hS3 hP4 hS4 hB4 hA2 hS2 k0 b0 b1 b2 b3 HP1 HBA HSb
      go_wp2_with fail
      generalize hV : (wc.setCell ⟨gr, 15, none⟩ (.int .i64 ((rn : Int) + 1))).setCell ⟨gr, 16, none⟩ (.bool true) = V at *
      clear hV d15 f15 d16 f16
      obtain ⟨fa, fk, rfl, _⟩ := HP4.out.fa.shape
      have t12 : V.cell? ⟨gr, 12, none⟩ = some (.slice fa R.fs.length fk) := HP4.out.blk.1.cell 12
      have b0 : V.cell? ⟨gB, 0, none⟩ = some (.int .i64 (pickN dI dn)) := HB4.out.1.cell 0
      have b1 : V.cell? ⟨gB, 1, none⟩ = some (encStr x) := HB4.out.1.cell 1
      have b2 : V.cell? ⟨gB, 2, none⟩ = some (encStr ki) := HB4.out.1.cell 2
      have b3 : V.cell? ⟨gB, 3, none⟩ = some (encStr kb) := HB4.out.1.cell 3
      have hgrl : gr < V.heap.size := HP4.out.blk.1.lt
      have hgBl : gB < V.heap.size := HB4.out.1.lt
      obtain ⟨i1, hi1, hy0, hy1, hy2⟩ := info_parts infoFact
      have hfl : R.fs.length < 100 := by rw [← HK.out.n, Hrn.out]; exact hn
      go_region_law (refine step_append_lies _ (by rfl) _ _ _ (by rfl) 0 50 i1 _ 8 88 Tryz.underlying31 hi1 hy0 hy1 hy2 rfl (by omega) (.slice fa R.fs.length fk) R.fs.length (R.fs.flatMap Fa.cells) (by rfl) ((HP4.out.fa.1.alloc _).drew) ⟨V.heap.size, 0, none⟩ 1 1 (Fa.cells ⟨⟨(pickN dI dn : Int), x, ki, kb, 1, 0⟩, 0, 0⟩) (by rfl) (by rfl) (World.news_of_block (cs := (Fa.cells ⟨⟨(pickN dI dn : Int), x, ki, kb, 1, 0⟩, 0, 0⟩).toArray) (t := 50) (fr := (0, 0)) (heap_alloc_new V _)) (by simp [Value.oneCell', Fa.cells, encStr]) (by omega) (by unfold maxLen; omega) (by omega) (by omega) (V.heap.size + 1) (by simp) ?_; intro g2 cap2 w2 hown2 hg2 hat2 hlt2; have hBk := Blk.grown (w := World.drew (World.alloc V _)) (HP4.out.blk.1.alloc _) hg2 (fun e => by have := HP4.out.fa.2 gr e.symm; rw [HP4.out.blk.2] at this; simp at this); have z0 := hBk.cell 12; have y0 := hBk.frozen 12; simp [runCells] at z0; have HU := hide (facted_step HP4.out hown2 hg2 hat2); clear hBk hown2 hg2 hat2)
      all_goals
        go_wp2_with fail
        first | go_end0 | refine bodyPost_ret (results_none rfl _ _ _) rfl ?_
        obtain ⟨L3, hR3, hS3⟩ := HU.out
        have hS5 := HS4.out.trans (step_r0 hS3)
        refine ⟨rfl, L3, HRk.out _ L3 ?_ (HA4.out.keep hS3 (fun q => not_ofP (by decide) q)) (HK.out.rb.step hS5)⟩
        have e : R.more ⟨(pickN dI dn : Int), x, ki, kb, 1, 0⟩ = { ({ R with n := rn + 1 } : Rn) with fs := R.fs ++ [⟨⟨(pickN dI dn : Int), x, ki, kb, 1, 0⟩, 0, 0⟩] } := by unfold Rn.more; rw [Hrn.out]
        rw [e]
        exact hR3
end Go.Proofs.YtojpjaifhjigfabGreatDoor
