/- Proved: conduitlaw.All returns true for all configurations, lists of tenants and scripts that are together of bulk at most 1048576: Open (of nothing, and of a log cut anywhere), Submit, Tick, Reply, Status, Dead, Waiting, Log and Compact answer as the document's agent does, in every order, on agents of two configurations. (The full form is false by size alone.) Its condition: the error variables hold what the program's text lays (the card ties that). -/
import Derived.Test.YtojpjaifhjigfaaGreatDoorRows
import Derived.Test.YtojpjaifhjigfaaGreatDoorCards
import Derived.Test.YtojpjaifhjigfaaGreatDoorTie
import Derived.Test.YtojpjaifhjigfaaGreatDoorMAllupto37
import Derived.Test.YtojpjaifhjigfaaGreatDoorMAllupto38
import Derived.Deep.DeepHandedRow
import Derived.Deep.DeepWitnessRowRef
import Derived.JoinedCond
namespace Go.Proofs.YtojpjaifhjigfaaGreatDoor.all
open Go.ChangeShapes Go.WideShapes Go.ChangeAt Go.WideMaps Go.WideElems Go.RowKit
set_option maxRecDepth 100000

theorem readCfg : Tryz.prog.readableRec 25 = true := by kernel_rfl
theorem readTen : Tryz.prog.readableRec 26 = true := by kernel_rfl
theorem readOps : Tryz.prog.readableRec 43 = true := by kernel_rfl

theorem bulk_pos {H : Type} (d : DataW H) : 1 ≤ Rows.uptoBulk d := by
  cases d with
  | lit l => cases l <;> simp [Rows.uptoBulk]
  | _ => simp [Rows.uptoBulk]
theorem bulk_len {H : Type} : ∀ l : List (DataW H), l.length ≤ Rows.uptoBulkAll l
  | [] => by simp [Rows.uptoBulkAll]
  | d :: r => by
    have h1 := bulk_pos d
    have h2 := bulk_len r
    simp only [Rows.uptoBulkAll, List.length_cons]
    omega
theorem bulk_ops {H : Type} : ∀ l : List (DataW H), (∀ e ∈ l, ∃ q, e = .agg q ∧ q.length = 8) → 9 * l.length ≤ Rows.uptoBulkAll l
  | [], _ => by simp [Rows.uptoBulkAll]
  | d :: r, h => by
    obtain ⟨q, rfl, hq⟩ := h d (by simp)
    have h1 := bulk_len q
    have h2 := bulk_ops r (fun e he => h e (by simp [he]))
    simp only [Rows.uptoBulkAll, Rows.uptoBulk, List.length_cons]
    omega

/-- The witness: no tenants, no steps. -/
abbrev wArgs : Array Value := #[zeroCfg.val none, .slice none 0 0, zeroCfg.val none, .slice none 0 0, .slice none 0 0]
theorem reads (os : Os) {H : Type} (enc : TypeId × Value → H) : ∃ x, DataW.whole enc Tryz.prog ((World.doorLaid Tryz.prog 400 os).forCall (fun _ _ => 0) ⟨#[], wArgs, []⟩).memory Tryz.f6.params.toList Rows.allSpec.vars false wArgs.toList 8 = some x ∧ Rows.uptoSmall H (x.1 ++ x.2.1) = true := by
  have h : ((DataW.whole enc Tryz.prog ((World.doorLaid Tryz.prog 400 os).forCall (fun _ _ => 0) ⟨#[], wArgs, []⟩).memory Tryz.f6.params.toList Rows.allSpec.vars false wArgs.toList 8).any fun x => Rows.uptoSmall H (x.1 ++ x.2.1)) = true := by kernel_rfl
  obtain ⟨x, h1, h2⟩ := (Option.any_eq_true _ _).1 h
  exact ⟨x, h1, h2⟩

theorem lifted (os : Os) (started : os.Started) (H : Type) (enc : TypeId × Value → H) (F : Stop.Interp) :
    ReturnsInHanded {} Tryz.checked os 6 .any ((Rows.OpenSpec.upto Rows.allSpec).preRow enc Tryz.prog Tryz.f6 Rows.allUptoRow.domain false Rows.allUptoRow.laid) (((Rows.OpenSpec.upto Rows.allSpec).at F).post enc Tryz.prog Tryz.f6 false true false false) := by
  obtain ⟨x, hx, hxk⟩ := reads os enc
  refine returnsInHanded_of_row (C := Tryz.checked) (s := Rows.OpenSpec.upto Rows.allSpec) own started (by kernel_rfl) Tryz.func6
    (witness_row_atRef (enc := enc) (C := Tryz.checked) false (World.doorLaid Tryz.prog 400 os) wArgs rfl (by kernel_rfl) (by kernel_rfl) (by kernel_rfl)
      (OpenSpec.preRow_of_cond 8 hx (by rfl) (fun k hk => by cases hk; exact hxk) (by kernel_rfl) (door_met os _))) ?_
  intro W base args ds gs before hval0 hW _ hcond _ hL _ _
  have hk : Rows.uptoSmall H (ds ++ gs) = true := hcond _ rfl
  have hval : ∀ (j : Nat) t v, Tryz.f6.params[j]? = some t → args[j]? = some v → Value.okWide Tryz.prog W .any base t v := hval0
  have hW' := hW
  have hltW := hW.lt
  obtain ⟨p, q, hA0, hV, rfl, hfz, hnd⟩ := hW
  have hA : DataW.TrodAll enc Tryz.prog W 0 (fun _ => true) true Tryz.f6.params.toList args.toList ds p := hA0
  rw [Tryz.params6] at hA hval
  obtain ⟨v0, vs0, d0, ds0, p0, q0, hargs0, rfl, rfl, h0, r0⟩ := trodAll_cons hA
  obtain ⟨v1, vs1, d1, ds1, p1, q1, rfl, rfl, rfl, h1, r1⟩ := trodAll_cons r0
  obtain ⟨v2, vs2, d2, ds2, p2, q2, rfl, rfl, rfl, h2, r2⟩ := trodAll_cons r1
  obtain ⟨v3, vs3, d3, ds3, p3, q3, rfl, rfl, rfl, h3, r3⟩ := trodAll_cons r2
  obtain ⟨v4, vs4, d4, ds4, p4, q4, rfl, rfl, rfl, h4, r4⟩ := trodAll_cons r3
  obtain ⟨rfl, rfl, rfl⟩ := trodAll_nil r4
  obtain rfl : args = #[v0, v1, v2, v3, v4] := by cases args; simp_all
  obtain ⟨rfl, rfl⟩ := trodVars_none hV
  obtain ⟨c, m, rfl⟩ := cfg_shape (hval 0 25 v0 rfl rfl)
  obtain ⟨la, len, lk, rfl⟩ := okWide_slice Tryz.underlying26 (hval 1 26 v1 rfl rfl)
  obtain ⟨c', m', rfl⟩ := cfg_shape (hval 2 25 v2 rfl rfl)
  obtain ⟨la', len', lk', rfl⟩ := okWide_slice Tryz.underlying26 (hval 3 26 v3 rfl rfl)
  obtain ⟨sa, sn, sk, rfl⟩ := okWide_slice Tryz.underlying43 (hval 4 43 v4 rfl rfl)
  obtain ⟨ts, hlen, hT, hok, hd⟩ := tenants_of h1
  obtain ⟨ts', hlen', hT', hok', hd'⟩ := tenants_of h3
  obtain ⟨ops, hlo, hO, hOk, hdo⟩ := ops_of h4
  subst hlen hlen' hlo
  obtain ⟨A, hS⟩ := sents_of hL
  have hbk : Rows.uptoBulk d0 + (Rows.uptoBulk d1 + (Rows.uptoBulk d2 + (Rows.uptoBulk d3 + (Rows.uptoBulk d4 + 0)))) ≤ 1048576 := by
    have : Rows.uptoBulkAll [d0, d1, d2, d3, d4] ≤ 1048576 := of_decide_eq_true hk
    simpa only [Rows.uptoBulkAll] using this
  have hb1 : ts.length ≤ 1048576 := by
    rcases hd with h | ⟨el, sp, rfl, he⟩
    · omega
    · have := bulk_len el
      simp only [Rows.uptoBulk] at hbk
      omega
  have hb3 : ts'.length ≤ 1048576 := by
    rcases hd' with h | ⟨el, sp, rfl, he⟩
    · omega
    · have := bulk_len el
      simp only [Rows.uptoBulk] at hbk
      omega
  have hb4 : ops.length ≤ 400000 := by
    rcases hdo with h | ⟨el, sp, rfl, he, hel⟩
    · omega
    · have := bulk_ops el hel
      simp only [Rows.uptoBulk] at hbk
      omega
  clear hval hval0
  refine (all_any A c c' m m' la la' lk lk' ts ts' sa sk ops W hS ⟨hok, by unfold big; omega⟩ hT ⟨hok', by unfold big; omega⟩ hT' hO hOk hb4).mono fun e W' ⟨he, hw⟩ => ?_
  subst he
  have k0 := Below.trod laidOut readCfg (of_decide_eq_true (by kernel_rfl)) h0 hw (fun x hx => hltW x (by simp [hx]))
  have k1 := Below.trod laidOut readTen (of_decide_eq_true (by kernel_rfl)) h1 hw (fun x hx => hltW x (by simp [hx]))
  have k2 := Below.trod laidOut readCfg (of_decide_eq_true (by kernel_rfl)) h2 hw (fun x hx => hltW x (by simp [hx]))
  have k3 := Below.trod laidOut readTen (of_decide_eq_true (by kernel_rfl)) h3 hw (fun x hx => hltW x (by simp [hx]))
  have k4 := Below.trod laidOut readOps (of_decide_eq_true (by kernel_rfl)) h4 hw (fun x hx => hltW x (by simp [hx]))
  exact ⟨_, rfl, _, _, _, [], p0 ++ (p1 ++ (p2 ++ (p3 ++ (p4 ++ [])))), [], hW', trodAll_mk1 (shut_bool Tryz.underlying4 _), trodAll_cons_mk k0 (trodAll_cons_mk k1 (trodAll_cons_mk k2 (trodAll_cons_mk k3 (trodAll_cons_mk k4 trodAll_mk0)))), rfl, hw.frame _, fun h => by cases h⟩

theorem said : Rows.AllUptoSaid :=
  OpenClaim.holds_of_cond 6 Tryz.f6 rfl rfl rfl rfl rfl rfl rfl ⟨rfl, rfl, rfl, rfl, rfl⟩ rfl rfl rfl rfl rfl (by kernel_rfl) Tryz.func6 (by kernel_rfl)
    (of_decide_eq_true (by kernel_rfl)) (by unfold Func.isWrapper; first | (rw [if_pos (by decide +kernel)]; kernel_rfl) | (rw [if_neg (by decide +kernel)]; exact ⟨rfl, rfl⟩))
    (fun os started H enc _ F => by rw [OpenClaim.pre_eq_preRow]; exact lifted os started H enc F)

theorem card : Rows.AllUptoCardSaid :=
  Claim7.holds_tied_plain_at .later [] _ _ _ _ said (fun _ h => by cases h) (by kernel_rfl) (fun _ h => by cases h) allUpto_row_tie rfl ⟨rfl, rfl⟩ (by kernel_rfl) rfl
    (fun f fn hf hfn => by
      obtain rfl : f = 6 := Option.some.inj ((show Tryz.prog.funcNamed Rows.allUptoRow.func = some 6 by kernel_rfl).symm.trans hf) |>.symm
      obtain rfl : fn = Tryz.f6 := (Option.some.inj (Tryz.func6.symm.trans hfn)).symm
      exact ⟨by kernel_rfl, fun j t ht => by
        rw [Tryz.params6] at ht
        have hm : t ∈ [25, 26, 25, 26, 43] := by simpa using Array.mem_of_getElem? ht
        have hall : ([25, 26, 25, 26, 43].all fun u => !Tryz.prog.wantsStandIn u) = true := by kernel_rfl
        exact (show Tryz.prog.wantsStandIn t = false by simpa using List.all_eq_true.1 hall t hm)⟩)
    (by kernel_rfl)
end Go.Proofs.YtojpjaifhjigfaaGreatDoor.all

namespace Go.Proofs.YtojpjaifhjigfaaGreatDoor
theorem all_holds : Rows.AllUptoCardSaid := all.card
#print axioms all_holds
end Go.Proofs.YtojpjaifhjigfaaGreatDoor
