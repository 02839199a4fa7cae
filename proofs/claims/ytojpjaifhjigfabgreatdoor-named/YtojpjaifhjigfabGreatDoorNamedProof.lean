/- Proved: conduitkeep.Named returns true for every list of numbers and every two scripts: two agents with which the same was done have the same log, behind a Compact too; two that tell different things have different ones. Its condition: the error variables hold what the program's text lays (the card ties that). -/
import Derived.Test.YtojpjaifhjigfabGreatDoorRows
import Derived.Test.YtojpjaifhjigfabGreatDoorCards
import Derived.Test.YtojpjaifhjigfabGreatDoorTie
import Derived.Test.YtojpjaifhjigfabGreatDoorMTwo26
import Derived.Test.YtojpjaifhjigfabGreatDoorMTwo30
namespace Go.Proofs.YtojpjaifhjigfabGreatDoor
open Go.ChangeShapes Go.WideShapes Go.ChangeAt Go.WideMaps Go.WideElems Go.RowKit
set_option maxRecDepth 100000

theorem readInts : Tryz.prog.readableRec 22 = true := by kernel_rfl
theorem readSteps : Tryz.prog.readableRec 23 = true := by kernel_rfl

theorem named_lifted (os : Os) (started : os.Started) (H : Type) (enc : TypeId × Value → H) :
    ReturnsInHanded {} Tryz.checked os 3 .any (fun w args => (Rows.namedSpec.pre enc Tryz.prog Tryz.f3 [] false w args ∧ laidMetH Tryz.prog laidAll w) ∧ sizedMet enc Tryz.prog Tryz.f3 (OpenSpec.ofChange Rows.namedSpec) false w args)
      (Rows.namedSpec.post enc Tryz.prog Tryz.f3 false true false false) := by
  refine returnsInHanded_of_change_and (C := Tryz.checked) (X := fun w _ => laidMetH Tryz.prog laidAll w) (fun _ _ _ hh h => h.of_heap hh) own started (by kernel_rfl) Tryz.func3
    (ChangeSpec.witness_shaped (enc := enc) (C := Tryz.checked) (os := os) (X := fun w _ => laidMetH Tryz.prog laidAll w) false (World.doorLaid Tryz.prog 400 os) #[.slice none 0 0, .slice none 0 0, .slice none 0 0] 8 rfl (World.shaped_of_RefB (by kernel_rfl) (by kernel_rfl)) (by kernel_rfl) (by kernel_rfl) (by kernel_rfl) (door_met os _)) ?_
  intro W base args ds gs before hval0 hW _ hsz hL _
  have hval : ∀ (j : Nat) t v, Tryz.f3.params[j]? = some t → args[j]? = some v → Value.okWide Tryz.prog W .any base t v := hval0
  have hW' := hW
  have hltW := hW.lt
  obtain ⟨p, q, hA0, hV, rfl, hfz, hnd⟩ := hW
  have hA : DataW.TrodAll enc Tryz.prog W 0 (fun _ => true) true Tryz.f3.params.toList args.toList ds p := hA0
  rw [Tryz.params3] at hA hval
  obtain ⟨v0, v1, v2, d0, d1, d2, p0, p1, p2, rfl, rfl, rfl, h0, h1, h2⟩ := trodAll_three hA
  obtain ⟨rfl, rfl⟩ := trodVars_none hV
  obtain ⟨la, len, lk, rfl⟩ := okWide_slice Tryz.underlying22 (hval 0 22 v0 rfl rfl)
  obtain ⟨sa, slen, sk, rfl⟩ := okWide_slice Tryz.underlying23 (hval 1 23 v1 rfl rfl)
  obtain ⟨ma, mlen, mk, rfl⟩ := okWide_slice Tryz.underlying23 (hval 2 23 v2 rfl rfl)
  obtain ⟨zs, hlen, hI, hR⟩ := ints_of h0
  obtain ⟨ss, hlen2, hI2, hR2, hd⟩ := steps_of h1
  obtain ⟨ms, hlen3, hI3, hR3, hd3⟩ := steps_of h2
  subst hlen
  subst hlen2
  subst hlen3
  obtain ⟨A, hS⟩ := sents_of hL
  have hbig : ss.length ≤ 3600000000000 := by
    rcases hd with h | ⟨el, sp, rfl, he⟩
    · omega
    · have this : (el.length + sp.length) * Tryz.prog.bytesOf 57 ≤ reachBytes := sized_slice hsz (j := 1) (t := 23) (e := 57) (elems := el) (spare := sp) rfl rfl Tryz.underlying23
      rw [stepBytes] at this
      simp only [reachBytes] at this
      omega
  have hbig3 : ms.length ≤ 3600000000000 := by
    rcases hd3 with h | ⟨el, sp, rfl, he⟩
    · omega
    · have this : (el.length + sp.length) * Tryz.prog.bytesOf 57 ≤ reachBytes := sized_slice hsz (j := 2) (t := 23) (e := 57) (elems := el) (spare := sp) rfl rfl Tryz.underlying23
      rw [stepBytes] at this
      simp only [reachBytes] at this
      omega
  clear hval hval0
  refine (named_any A la sa ma lk sk mk zs ss ms W hS hR hI hI2 hR2 hbig hI3 hR3 hbig3).mono fun e W' ⟨he, hw⟩ => ?_
  subst he
  have k0 := Below.trod laidOut readInts (of_decide_eq_true (by kernel_rfl)) h0 hw (fun x hx => hltW x (by simp [hx]))
  have k1 := Below.trod laidOut readSteps (of_decide_eq_true (by kernel_rfl)) h1 hw (fun x hx => hltW x (by simp [hx]))
  have k2 := Below.trod laidOut readSteps (of_decide_eq_true (by kernel_rfl)) h2 hw (fun x hx => hltW x (by simp [hx]))
  exact ⟨_, rfl, _, _, _, [], p0 ++ (p1 ++ p2), [], hW', trodAll_mk1 (shut_bool Tryz.underlying4 _), trodAll_mk3 k0 k1 k2, rfl, hw.frame _, fun h => by cases h⟩

theorem named_row : Rows.NamedSaid :=
  OpenClaim.holds_of_wide 3 Tryz.f3 rfl rfl rfl rfl rfl rfl rfl ⟨rfl, rfl, rfl, rfl, rfl⟩ rfl rfl rfl rfl rfl (by kernel_rfl) Tryz.func3 (by kernel_rfl)
    (of_decide_eq_true (by kernel_rfl)) (by unfold Func.isWrapper; first | (rw [if_pos (by decide +kernel)]; kernel_rfl) | (rw [if_neg (by decide +kernel)]; exact ⟨rfl, rfl⟩))
    (fun os started H enc _ => named_lifted os started H enc)

theorem named_holds : Rows.NamedCardSaid :=
  Claim7.holds_tied_plain_at .later [] [.sentinel, .sentinel, .sentinel, .sentinel, .sentinel, .sentinel, .sentinel, .sentinel, .sentinel, .sentinel, .sentinel] true Rows.namedCard.stood.harness true
    named_row (fun _ h => by cases h) (by kernel_rfl) (fun _ h => by cases h) named_row_tie rfl ⟨rfl, rfl⟩ (by kernel_rfl) rfl
    (fun f fn hf hfn => by
      obtain rfl : f = 3 := Option.some.inj ((show Tryz.prog.funcNamed Rows.namedRow.func = some 3 by kernel_rfl).symm.trans hf) |>.symm
      obtain rfl : fn = Tryz.f3 := (Option.some.inj (Tryz.func3.symm.trans hfn)).symm
      exact ⟨by kernel_rfl, fun j t ht => by
        rw [Tryz.params3] at ht
        have hm : t ∈ [22, 23, 23] := by simpa using Array.mem_of_getElem? ht
        have hall : ([22, 23, 23].all fun u => !Tryz.prog.wantsStandIn u) = true := by kernel_rfl
        exact (show Tryz.prog.wantsStandIn t = false by simpa using List.all_eq_true.1 hall t hm)⟩)
    (by kernel_rfl)
#print axioms named_holds
end Go.Proofs.YtojpjaifhjigfabGreatDoor
