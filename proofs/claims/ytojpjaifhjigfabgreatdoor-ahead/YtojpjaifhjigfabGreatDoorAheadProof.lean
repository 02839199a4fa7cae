/- Proved: conduitkeep.Ahead returns true for every list of numbers, every text, every script, with and without a Compact: Open of any text gives an agent, or ErrLog; if an agent is played whose log is just that text, the one that was opened ahead of it tells the same. Its condition: the error variables hold what the program's text lays (the card ties that). -/
import Derived.Test.YtojpjaifhjigfabGreatDoorRows
import Derived.Test.YtojpjaifhjigfabGreatDoorCards
import Derived.Test.YtojpjaifhjigfabGreatDoorTie
import Derived.Test.YtojpjaifhjigfabGreatDoorMTwo26
import Derived.Test.YtojpjaifhjigfabGreatDoorMTwo29
import Derived.Test.YtojpjaifhjigfabGreatDoorMTwo30
namespace Go.Proofs.YtojpjaifhjigfabGreatDoor
open Go.ChangeShapes Go.WideShapes Go.ChangeAt Go.WideMaps Go.WideElems Go.RowKit
set_option maxRecDepth 100000

theorem readInts : Tryz.prog.readableRec 22 = true := by kernel_rfl
theorem readText : Tryz.prog.readableRec 9 = true := by kernel_rfl
theorem readBool : Tryz.prog.readableRec 4 = true := by kernel_rfl
/-- A text that comes in. -/
theorem text_of {H : Type} {enc : TypeId × Value → H} {W : World} {base : Nat} {v : Value} {d : DataW H} {p : List MemPlace} (h : DataW.Trod enc Tryz.prog W 0 (fun _ => true) true 9 v d p) (hv : Value.okWide Tryz.prog W .any base 9 v) : ∃ text : List UInt8, v = encStr text ∧ d = .lit (.string text) := by
  obtain ⟨s, rfl⟩ := okWide_string Tryz.underlying9 hv
  obtain ⟨fuel, hf⟩ := h
  obtain ⟨s', e, hx, _⟩ := DataW.trod_string Tryz.underlying9 hf
  simp only [Value.cells, List.cons.injEq, Value.string.injEq, and_true] at e
  subst e
  refine ⟨s.data.toList, ?_, ?_⟩
  · simp [encStr]
  · simpa using congrArg Prod.fst hx
theorem readSteps : Tryz.prog.readableRec 23 = true := by kernel_rfl

theorem ahead_lifted (os : Os) (started : os.Started) (H : Type) (enc : TypeId × Value → H) :
    ReturnsInHanded {} Tryz.checked os 4 .any (fun w args => (Rows.aheadSpec.pre enc Tryz.prog Tryz.f4 [] false w args ∧ laidMetH Tryz.prog laidAll w) ∧ sizedMet enc Tryz.prog Tryz.f4 (OpenSpec.ofChange Rows.aheadSpec) false w args)
      (Rows.aheadSpec.post enc Tryz.prog Tryz.f4 false true false false) := by
  refine returnsInHanded_of_change_and (C := Tryz.checked) (X := fun w _ => laidMetH Tryz.prog laidAll w) (fun _ _ _ hh h => h.of_heap hh) own started (by kernel_rfl) Tryz.func4
    (ChangeSpec.witness_shaped (enc := enc) (C := Tryz.checked) (os := os) (X := fun w _ => laidMetH Tryz.prog laidAll w) false (World.doorLaid Tryz.prog 400 os) #[.slice none 0 0, .string ⟨#[]⟩, .slice none 0 0, .bool false] 8 rfl (World.shaped_of_RefB (by kernel_rfl) (by kernel_rfl)) (by kernel_rfl) (by kernel_rfl) (by kernel_rfl) (door_met os _)) ?_
  intro W base args ds gs before hval0 hW _ hsz hL _
  have hval : ∀ (j : Nat) t v, Tryz.f4.params[j]? = some t → args[j]? = some v → Value.okWide Tryz.prog W .any base t v := hval0
  have hW' := hW
  have hltW := hW.lt
  obtain ⟨p, q, hA0, hV, rfl, hfz, hnd⟩ := hW
  have hA : DataW.TrodAll enc Tryz.prog W 0 (fun _ => true) true Tryz.f4.params.toList args.toList ds p := hA0
  rw [Tryz.params4] at hA hval
  obtain ⟨v0, vt, v1, vb, d0, dt, d1, db, p0, pt, p1, pb, rfl, rfl, rfl, h0, ht, h1, hb⟩ := trodAll_four hA
  obtain ⟨rfl, rfl⟩ := trodVars_none hV
  obtain ⟨la, len, lk, rfl⟩ := okWide_slice Tryz.underlying22 (hval 0 22 v0 rfl rfl)
  obtain ⟨sa, slen, sk, rfl⟩ := okWide_slice Tryz.underlying23 (hval 2 23 v1 rfl rfl)
  obtain ⟨cb, rfl⟩ := okWide_bool Tryz.underlying4 (hval 3 4 vb rfl rfl)
  obtain ⟨text, rfl, hdt⟩ := text_of ht (hval 1 9 vt rfl rfl)
  obtain ⟨zs, hlen, hI, hR⟩ := ints_of h0
  obtain ⟨ss, hlen2, hI2, hR2, hd⟩ := steps_of h1
  subst hlen
  subst hlen2
  obtain ⟨A, hS⟩ := sents_of hL
  have hbig : ss.length ≤ 3600000000000 := by
    rcases hd with h | ⟨el, sp, rfl, he⟩
    · omega
    · have this : (el.length + sp.length) * Tryz.prog.bytesOf 57 ≤ reachBytes := sized_slice hsz (j := 2) (t := 23) (e := 57) (elems := el) (spare := sp) rfl rfl Tryz.underlying23
      rw [stepBytes] at this
      simp only [reachBytes] at this
      omega
  have htx : text.length ≤ 140737488355328 := by
    have this := sized_string hsz (j := 1) (t := 9) (bytes := text) rfl (by rw [hdt]; rfl)
    simp only [reachBytes] at this
    omega
  clear hval hval0
  refine (ahead_any A la sa lk sk zs text ss cb W hS hR hI hI2 hR2 hbig htx).mono fun e W' ⟨he, hw⟩ => ?_
  subst he
  have k0 := Below.trod laidOut readInts (of_decide_eq_true (by kernel_rfl)) h0 hw (fun x hx => hltW x (by simp [hx]))
  have k1 := Below.trod laidOut readSteps (of_decide_eq_true (by kernel_rfl)) h1 hw (fun x hx => hltW x (by simp [hx]))
  have kt := Below.trod laidOut readText (of_decide_eq_true (by kernel_rfl)) ht hw (fun x hx => hltW x (by simp [hx]))
  have kb := Below.trod laidOut readBool (of_decide_eq_true (by kernel_rfl)) hb hw (fun x hx => hltW x (by simp [hx]))
  exact ⟨_, rfl, _, _, _, [], p0 ++ (pt ++ (p1 ++ pb)), [], hW', trodAll_mk1 (shut_bool Tryz.underlying4 _), trodAll_mk4 k0 kt k1 kb, rfl, hw.frame _, fun h => by cases h⟩

theorem ahead_row : Rows.AheadSaid :=
  OpenClaim.holds_of_wide 4 Tryz.f4 rfl rfl rfl rfl rfl rfl rfl ⟨rfl, rfl, rfl, rfl, rfl⟩ rfl rfl rfl rfl rfl (by kernel_rfl) Tryz.func4 (by kernel_rfl)
    (of_decide_eq_true (by kernel_rfl)) (by unfold Func.isWrapper; first | (rw [if_pos (by decide +kernel)]; kernel_rfl) | (rw [if_neg (by decide +kernel)]; exact ⟨rfl, rfl⟩))
    (fun os started H enc _ => ahead_lifted os started H enc)

theorem ahead_holds : Rows.AheadCardSaid :=
  Claim7.holds_tied_plain_at .later [] [.sentinel, .sentinel, .sentinel, .sentinel, .sentinel, .sentinel, .sentinel, .sentinel, .sentinel, .sentinel, .sentinel] true Rows.aheadCard.stood.harness true
    ahead_row (fun _ h => by cases h) (by kernel_rfl) (fun _ h => by cases h) ahead_row_tie rfl ⟨rfl, rfl⟩ (by kernel_rfl) rfl
    (fun f fn hf hfn => by
      obtain rfl : f = 4 := Option.some.inj ((show Tryz.prog.funcNamed Rows.aheadRow.func = some 4 by kernel_rfl).symm.trans hf) |>.symm
      obtain rfl : fn = Tryz.f4 := (Option.some.inj (Tryz.func4.symm.trans hfn)).symm
      exact ⟨by kernel_rfl, fun j t ht => by
        rw [Tryz.params4] at ht
        have hm : t ∈ [22, 9, 23, 4] := by simpa using Array.mem_of_getElem? ht
        have hall : ([22, 9, 23, 4].all fun u => !Tryz.prog.wantsStandIn u) = true := by kernel_rfl
        exact (show Tryz.prog.wantsStandIn t = false by simpa using List.all_eq_true.1 hall t hm)⟩)
    (by kernel_rfl)
#print axioms ahead_holds
end Go.Proofs.YtojpjaifhjigfabGreatDoor
