/- Proved: conduitlaw.Opens returns true for every configuration and every list of tenants: Open with an empty log gives an agent just if it is a configuration (else ErrConfig), the map that is handed in stays as it was, and it may be changed by its owner afterwards. Its condition: the error variables hold what the program's text lays (the card ties that). -/
import Derived.Test.YtojpjaifhjigfaaGreatDoorRows
import Derived.Test.YtojpjaifhjigfaaGreatDoorCards
import Derived.Test.YtojpjaifhjigfaaGreatDoorTie
import Derived.Test.YtojpjaifhjigfaaGreatDoorArgsLab
import Derived.Test.YtojpjaifhjigfaaGreatDoorProofBase
namespace Go.Proofs.YtojpjaifhjigfaaGreatDoor
open Go.ChangeShapes Go.WideShapes Go.ChangeAt Go.WideMaps Go.WideElems Go.RowKit
set_option maxRecDepth 100000

theorem readCfg : Tryz.prog.readableRec 25 = true := by kernel_rfl
theorem readTen : Tryz.prog.readableRec 26 = true := by kernel_rfl

theorem opens_lifted (os : Os) (started : os.Started) (H : Type) (enc : TypeId × Value → H) :
    ReturnsInHanded {} Tryz.checked os 3 .any (fun w args => (Rows.opensSpec.pre enc Tryz.prog Tryz.f3 [] false w args ∧ laidMetH Tryz.prog laidAll w) ∧ sizedMet enc Tryz.prog Tryz.f3 (OpenSpec.ofChange Rows.opensSpec) false w args)
      (Rows.opensSpec.post enc Tryz.prog Tryz.f3 false true false false) := by
  refine returnsInHanded_of_change_and (C := Tryz.checked) (X := fun w _ => laidMetH Tryz.prog laidAll w) (fun _ _ _ hh h => h.of_heap hh) own started (by kernel_rfl) Tryz.func3
    (ChangeSpec.witness_shaped (enc := enc) (C := Tryz.checked) (os := os) (X := fun w _ => laidMetH Tryz.prog laidAll w) false (World.doorLaid Tryz.prog 400 os) #[zeroCfg.val none, .slice none 0 0] 8 rfl (World.shaped_of_RefB (by kernel_rfl) (by kernel_rfl)) (by kernel_rfl) (by kernel_rfl) (by kernel_rfl) (door_met os _)) ?_
  intro W base args ds gs before hval0 hW _ hsz hL _
  have hval : ∀ (j : Nat) t v, Tryz.f3.params[j]? = some t → args[j]? = some v → Value.okWide Tryz.prog W .any base t v := hval0
  have hW' := hW
  have hltW := hW.lt
  obtain ⟨p, q, hA0, hV, rfl, hfz, hnd⟩ := hW
  have hA : DataW.TrodAll enc Tryz.prog W 0 (fun _ => true) true Tryz.f3.params.toList args.toList ds p := hA0
  rw [Tryz.params3] at hA hval
  obtain ⟨v0, v1, d0, d1, p0, p1, rfl, rfl, rfl, h0, h1⟩ := trodAll_two hA
  obtain ⟨rfl, rfl⟩ := trodVars_none hV
  obtain ⟨c, m, rfl⟩ := cfg_shape (hval 0 25 v0 rfl rfl)
  obtain ⟨la, len, lk, rfl⟩ := okWide_slice Tryz.underlying26 (hval 1 26 v1 rfl rfl)
  obtain ⟨ts, hlen, hT, hok, hd⟩ := tenants_of h1
  subst hlen
  obtain ⟨A, hS⟩ := sents_of hL
  have hbig : ts.length ≤ big := by
    rcases hd with h | ⟨el, sp, rfl, he⟩
    · omega
    · have this : (el.length + sp.length) * Tryz.prog.bytesOf 94 ≤ reachBytes := sized_slice hsz (j := 1) (t := 26) (e := 94) (elems := el) (spare := sp) rfl rfl Tryz.underlying26
      rw [tenBytes] at this
      simp only [reachBytes] at this
      unfold big
      omega
  clear hval hval0
  refine (opens_any A c m la lk ts W hS ⟨hok, hbig⟩ hT).mono fun e W' ⟨he, hw⟩ => ?_
  subst he
  have k0 := Below.trod laidOut readCfg (of_decide_eq_true (by kernel_rfl)) h0 hw (fun x hx => hltW x (by simp [hx]))
  have k1 := Below.trod laidOut readTen (of_decide_eq_true (by kernel_rfl)) h1 hw (fun x hx => hltW x (by simp [hx]))
  exact ⟨_, rfl, _, _, _, [], p0 ++ p1, [], hW', trodAll_mk1 (shut_bool Tryz.underlying4 _), trodAll_mk2 k0 k1, rfl, hw.frame _, fun h => by cases h⟩

theorem opens_row : Rows.OpensSaid :=
  OpenClaim.holds_of_wide 3 Tryz.f3 rfl rfl rfl rfl rfl rfl rfl ⟨rfl, rfl, rfl, rfl, rfl⟩ rfl rfl rfl rfl rfl (by kernel_rfl) Tryz.func3 (by kernel_rfl)
    (of_decide_eq_true (by kernel_rfl)) (by unfold Func.isWrapper; first | (rw [if_pos (by decide +kernel)]; kernel_rfl) | (rw [if_neg (by decide +kernel)]; exact ⟨rfl, rfl⟩))
    (fun os started H enc _ => opens_lifted os started H enc)

theorem opens_holds : Rows.OpensCardSaid :=
  Claim7.holds_tied_plain_at .later [] [.sentinel, .sentinel, .sentinel, .sentinel, .sentinel, .sentinel, .sentinel, .sentinel, .sentinel, .sentinel, .sentinel] true Rows.opensCard.stood.harness true
    opens_row (fun _ h => by cases h) (by kernel_rfl) (fun _ h => by cases h) opens_row_tie rfl ⟨rfl, rfl⟩ (by kernel_rfl) rfl
    (fun f fn hf hfn => by
      obtain rfl : f = 3 := Option.some.inj ((show Tryz.prog.funcNamed Rows.opensRow.func = some 3 by kernel_rfl).symm.trans hf) |>.symm
      obtain rfl : fn = Tryz.f3 := (Option.some.inj (Tryz.func3.symm.trans hfn)).symm
      exact ⟨by kernel_rfl, fun j t ht => by
        rw [Tryz.params3] at ht
        have hm : t ∈ [25, 26] := by simpa using Array.mem_of_getElem? ht
        have hall : ([25, 26].all fun u => !Tryz.prog.wantsStandIn u) = true := by kernel_rfl
        exact (show Tryz.prog.wantsStandIn t = false by simpa using List.all_eq_true.1 hall t hm)⟩)
    (by kernel_rfl)
#print axioms opens_holds
end Go.Proofs.YtojpjaifhjigfaaGreatDoor
