/- Steps of the proof (several texts in one): BrokenWalk, ProofBase. -/
import Derived.Test.YtojpjaifhjigfaaGreatDoorMBroken10
import Derived.Test.YtojpjaifhjigfaaGreatDoorRows
import Derived.Test.YtojpjaifhjigfaaGreatDoorCards
import Derived.Test.YtojpjaifhjigfaaGreatDoorTie
import Derived.Test.YtojpjaifhjigfaaGreatDoorMBroken01
import Derived.ProofKit
import Derived.LaidMore
import Derived.OpenShut
import Derived.Stop.Joined
import Derived.SevenTiedAt

/- conduitkeep.Broken. -/
namespace Go.Proofs.YtojpjaifhjigfaaGreatDoor
open Go.RowKit Go.Maps
attribute [local go_sem] run_store_float

/-- Broken's configuration in memory. -/
abbrev oneCells (zs : List Int) (b : Nat) : Array Value := (oneC zs).cells (some b)

/-- Open of it. -/
theorem kopen (zs : List Int) (b n gc : Nat) (w W : World) (hn : n ≤ 4) (hM : OM W b n (DT (madeT zs (1 + pickN (zs.getD 9 0) 4)))) (hB : Below w.heap.size w W) (hC : Blk W gc (oneCells zs b) 25) :
    Calls Tryz.prog 26 #[(oneC zs).val (some b), .string ⟨#[]⟩] W fun e w' => ∃ g M, e = .returned (.tuple #[.pointer (some ⟨g, 0, none⟩), .nilIface]) ∧ Subs zs 0 M ∧ KAt w w' g gc (oneCells zs b) 0 M := by
  refine (open_good (fun _ => none) 1 (oneC zs) (some b) _ W (Or.inr ⟨b, n, rfl, hM, by unfold big; omega⟩) (one_good zs)).mono ?_
  rintro e w' ⟨g, L', ns, rfl, h1, h2, _, h4, _, h6, _⟩
  refine ⟨g, _, rfl, subs_new zs ns, L', h1, ⟨hC.below h4 hC.lt, (h6 gc hC.lt)⟩, fun k hk => h6 k (Nat.lt_of_lt_of_le hk hB.size), hB.trans (h4.mono hB.size), inv_new hM (one_good zs) h2⟩

set_option maxRecDepth 100000 in
set_option maxHeartbeats 2000000 in
theorem broken_any (A : Nat → Addr) (la : Option Addr) (cap : Nat) (zs : List Int) (good : Bool) (w : World) (hS : Sents.Holds w 260 gl 11 A) (hr : ∀ z ∈ zs, InR z) (h : IntsAt w la zs) :
    Calls Tryz.prog 11 #[.slice la zs.length cap, .bool good] w fun e w' => e = .returned (.bool true) ∧ Below w.heap.size w w' := by
  obtain ⟨l1, l2, _, o1, o2, _⟩ := one_bd zs
  have HMade := hide (made_any la cap zs w hr h)
  have HS := hide hS
  generalize zs.length = nz at *
  clear h hr hS
  go_enter Tryz.func11, Tryz.ntmps11
  go_wp2_with fail
  refine HMade.out.mono ?_
  rintro e w1 ⟨b, rfl, hb, ⟨n, hn, hM⟩, hB1⟩
  have HM := hide hM
  have HB1 := hide hB1
  have hbl : b < w1.heap.size := hM.lt
  clear hM hB1
  go_wp2_with fail
  generalize hW : World.alloc w1 _ = W
  have hC : Blk W w1.heap.size (oneCells zs b) 25 := by rw [← hW]; exact Blk.new w1 _ _
  have hBW : Below w.heap.size w W := by rw [← hW]; exact HB1.out.alloc HB1.out.size _
  have hMW : OM W b n (DT (madeT zs (1 + pickN (zs.getD 9 0) 4))) := by rw [← hW]; exact HM.out.alloc _
  have HO := hide (kopen zs b n w1.heap.size w W hn hMW hBW hC)
  clear hW hC hBW hMW HM
  generalize w1.heap.size = gc at *
  refine HO.out.mono ?_
  rintro e w2 ⟨g, M, rfl, hSu, hK⟩
  have HSu := hide hSu
  have HK := hide hK
  obtain ⟨lN, hlN⟩ : ∃ lN : Nat, (oneC zs).le = lN := ⟨(oneC zs).le.toNat, by omega⟩
  obtain ⟨oN, hoN⟩ : ∃ oN : Nat, (oneC zs).op = oN := ⟨(oneC zs).op.toNat, by omega⟩
  have Hc8 : Hid (∀ wr t M, KAt w wr g gc (oneCells zs b) t M → wr.cell? ⟨gc, 8, none⟩ = some (.int .i64 lN)) := fun wr t M hk => by rw [hk.cell 8, ← hlN]; rfl
  have Hc10 : Hid (∀ wr t M, KAt w wr g gc (oneCells zs b) t M → wr.cell? ⟨gc, 10, none⟩ = some (.int .i64 oN)) := fun wr t M hk => by rw [hk.cell 10, ← hoN]; rfl
  rw [hlN] at l1 l2
  rw [hoN] at o1 o2
  have HlN := hide hlN
  have HoN := hide hoN
  clear hSu hK hlN hoN HO
  generalize hcs : oneCells zs b = cs at *
  clear hcs
  go_wp2_with fail
  go_loopw [8] (fun i wr => ∃ (k : Nat) (M : Ag), k ≤ lN + 3 ∧ i = .int .i64 k ∧ Subs zs k M ∧ KAt w wr g gc cs k M) (fun i _ => lN + 3 - (intOf i).toNat)
  case atStart => exact ⟨0, M, Nat.zero_le _, rfl, HSu.out, HK.out⟩
  case round =>
    clear HSu HK
    obtain ⟨k, M, hk, rfl, hSu, hK⟩ := hrel
    have d8 := Hc8.out wr k M hK
    by_cases hlt : k < lN + 3
    · have hltI : (k : Int) < (lN : Int) + 3 := by omega
      have HSub : Hid (∀ w', Below wr.heap.size wr w' → Calls Tryz.prog 27 #[.pointer (some ⟨g, 0, none⟩), .agg #[.int .i64 0, encStr [97], encStr (kid k), encStr [97, 98, 99]]] w' fun e w3 => e = .returned .nilIface ∧ KAt w w3 g gc cs (k + 1) (M.submitted (brkBat k))) := fun w' hb => by
        refine (ksubmit A HS.out (hK.below hb) (by omega) (brkBat k) (by simp [brkBat, maxLen])).mono ?_
        rintro e w3 ⟨rfl, h3⟩
        rw [hSu.ok (by omega)]
        exact ⟨rfl, h3⟩
      have HNx := hide (hSu.next (by omega))
      clear hSu hK
      go_wp2_with fail
      refine (kid_any k _ (by omega)).mono ?_
      rintro e w3 ⟨rfl, hb3⟩
      have HSub3 := hide (HSub.out w3 hb3)
      clear hb3
      go_wp2_with fail
      refine HSub3.out.mono ?_
      rintro e w4 ⟨rfl, hK4⟩
      have HK4 := hide hK4
      clear hK4
      go_wp2_with fail
      go_roundw
      case rel => exact ⟨k + 1, _, by omega, by go_num, HNx.out, HK4.out⟩
      case measure => simp [intOf]; omega
    · obtain rfl : k = lN + 3 := by omega
      have hF : Fails zs 0 M := Subs.fails (by rw [HlN.out]; simpa using hSu)
      have HF := hide hF
      have HK := hide hK
      clear hSu hK hF
      have hgtI : ¬ (((lN + 3 : Nat) : Int) < (lN : Int) + 3) := by omega
      go_wp2_with fail
      clear d8 hgtI hlt hk
      go_loopw [10] (fun i wr => ∃ (k t : Nat) (M : Ag), k ≤ lN ∧ t ≤ 20 + 2 * k ∧ i = .int .i64 ((k : Int) + 1) ∧ Fails zs k M ∧ KAt w wr g gc cs t M) (fun i _ => lN + 1 - (intOf i).toNat)
      case atStart => exact ⟨0, lN + 3, M, Nat.zero_le _, by omega, rfl, HF.out, HK.out⟩
      case round =>
        clear HF HK
        obtain ⟨k, t, M, hk, ht, rfl, hF, hK⟩ := hrel
        have d8 := Hc8.out wr t M hK
        by_cases hlt : k < lN
        · have hltI : (k : Int) + 1 ≤ (lN : Int) := by omega
          obtain ⟨M', sd, o', he, htr, ho, hw, hsn, hF'⟩ := hF.tick hK.inv (by omega) (by rw [HlN.out]; omega)
          have HT := hide (ktick1 hK (by omega) (ms := 0) (by omega) (by omega) he)
          have HR : Hid (∀ w', KAt w w' g gc cs (t + 1) M' → Calls Tryz.prog 31 #[.pointer (some ⟨g, 0, none⟩), .int .i64 0, .int .i64 ((k : Int) + 1), .bool false, .int .i64 0] w' fun e w3 => e = .returned .nilIface ∧ KAt w w3 g gc cs (t + 1 + 1) (M'.replied 0 false 0)) := fun w' h' => kreply h' (by omega) ho hw false _ hsn.symm
          have HF' := hide hF'
          rw [htr] at HT
          clear hF hK he htr ho hw hsn hF'
          go_wp2_with fail
          refine HT.out.mono ?_
          rintro e w3 ⟨gr, rcap, rfl, hc1, hK3⟩
          have HR3 := hide (HR.out w3 hK3)
          clear hK3
          go_wp2_with fail
          refine HR3.out.mono ?_
          rintro e w4 ⟨rfl, hK4⟩
          have HK4 := hide hK4
          clear hK4 hc1
          go_wp2_with fail
          go_roundw
          case rel => exact ⟨k + 1, t + 1 + 1, _, by omega, by omega, by go_num, HF'.out, HK4.out⟩
          case measure => simp [intOf]; omega
        · obtain rfl : k = lN := by omega
          have hgtI : ¬ ((k : Int) + 1 ≤ (k : Int)) := by omega
          have HD := hide (hF.down HlN.out.symm)
          rw [HoN.out] at HD
          have HK := hide hK
          clear hF hK
          go_wp2_with fail
          clear d8 hgtI hlt hk
          go_loopw [14] (fun i wr => ∃ (j t : Nat) (M : Ag), j + 1 ≤ oN ∧ t ≤ 100 + j ∧ i = .int .i64 ((j : Int) + 1) ∧ Down zs j 3 oN M ∧ KAt w wr g gc cs t M) (fun i _ => oN + 1 - (intOf i).toNat)
          case atStart => exact ⟨0, t, M, by omega, by omega, rfl, HD.out, HK.out⟩
          case round =>
            clear HD HK
            obtain ⟨j, t, M, hj, ht, rfl, hD, hK⟩ := hrel
            have d10 := Hc10.out wr t M hK
            by_cases hlt : j + 1 < oN
            · have hltI : (j : Int) + 1 < (oN : Int) := by omega
              obtain ⟨he, hD'⟩ := hD.wait 1 (by omega)
              have HT := hide (ktick0 hK (by omega) (ms := 1) (by omega) (by omega) he)
              have HD' := hide hD'
              clear hD hK he hD'
              go_wp2_with fail
              refine HT.out.mono ?_
              rintro e w3 ⟨ra, rcap, rfl, hK3⟩
              have HK3 := hide hK3
              clear hK3
              go_wp2_with fail
              go_roundw
              case rel => exact ⟨j + 1, t + 1, _, by omega, by omega, by go_num, by have := HD'.out; simpa using this, HK3.out⟩
              case measure => simp [intOf]; omega
            · have hgtI : ¬ ((j : Int) + 1 < (oN : Int)) := by omega
              obtain ⟨M', sd, o', he, ho, hw, htr, hD', hU'⟩ := hD.goes hK.inv (by omega) (ms := 1) (by omega) (by omega) (by omega) (by omega)
              have HT := hide (ktick1 hK (by omega) (ms := 1) (by omega) (by omega) he)
              have HR : Hid (∀ w', KAt w w' g gc cs (t + 1) M' → Calls Tryz.prog 31 #[.pointer (some ⟨g, 0, none⟩), .int .i64 0, .int .i64 sd.try', .bool good, .int .i64 0] w' fun e w3 => e = .returned .nilIface ∧ KAt w w3 g gc cs (t + 1 + 1) (M'.replied 0 good 0)) := fun w' h' => kreply h' (by omega) ho hw good _ htr
              have HD' := hide hD'
              have HU' := hide hU'
              generalize sd.try' = tr at *
              clear hD hK he htr ho hw hD' hU'
              go_wp2_with fail
              refine HT.out.mono ?_
              rintro e w3 ⟨gr, rcap, rfl, hc1, hK3⟩
              have HR3 := hide (HR.out w3 hK3)
              clear hK3
              go_wp2_with fail
              refine HR3.out.mono ?_
              rintro e w4 ⟨rfl, hK4⟩
              cases good
              · obtain ⟨he5, hD5⟩ := HD'.out.wait 0 (by rw [HoN.out]; omega)
                have HT5 := hide (ktick0 hK4 (by omega) (ms := 0) (by omega) (by omega) he5)
                have HD5 := hide hD5
                clear hK4 hc1 he5 hD5
                go_wp2_with fail
                refine HT5.out.mono ?_
                rintro e w5 ⟨a5, cap5, rfl, hK5⟩
                have d10' := Hc10.out w5 _ _ hK5
                obtain ⟨he6, hD6⟩ := HD5.out.wait ((oN : Int) - 1) (by rw [HoN.out]; omega)
                have HT6 := hide (ktick0 hK5 (by omega) (ms := (oN : Int) - 1) (by omega) (by omega) he6)
                have HD6 := hide hD6
                clear hK5 he6 hD6
                go_wp2_with fail
                refine HT6.out.mono ?_
                rintro e w6 ⟨a6, cap6, rfl, hK6⟩
                obtain ⟨M7, s7, _, he7, _⟩ := HD6.out.goes hK6.inv (by omega) (ms := 1) (by omega) (by omega) (by omega) (by rw [HoN.out]; omega)
                have HT7 := hide (ktick1 hK6 (by omega) (ms := 1) (by omega) (by omega) he7)
                clear hK6 he7
                go_wp2_with fail
                refine HT7.out.mono ?_
                rintro e w7 ⟨g7, cap7, rfl, _, hK7⟩
                have HB7 := hide hK7.b
                clear hK7
                go_wp2_with fail
                go_ret
                exact ⟨rfl, HB7.out⟩
              · obtain ⟨M5, s5, he5⟩ := HU'.out.goes hK4.inv (by omega)
                have HT5 := hide (ktick1 hK4 (by omega) (ms := 0) (by omega) (by omega) he5)
                clear hK4 hc1 he5
                go_wp2_with fail
                refine HT5.out.mono ?_
                rintro e w5 ⟨g5, cap5, rfl, _, hK5⟩
                have HB5 := hide hK5.b
                clear hK5
                go_wp2_with fail
                go_ret
                exact ⟨rfl, HB5.out⟩
end Go.Proofs.YtojpjaifhjigfaaGreatDoor

/- What every proof over this seat takes of the rows: the listed error variables, and a world that meets them. -/
namespace Go.Proofs.YtojpjaifhjigfaaGreatDoor
open Go.ChangeShapes Go.WideShapes Go.ChangeAt Go.WideMaps Go.WideElems Go.RowKit

theorem own : ownKnob Tryz.prog.godebug = none := by kernel_rfl
theorem cells142 : Tryz.prog.cellsOf 274 = 1 := by kernel_rfl
theorem cells9 : Tryz.prog.cellsOf 9 = 1 := by kernel_rfl
theorem star : "*" ++ "errors.errorString" = "*errors.errorString" := by decide
theorem row121 (u : TypeId) (h : Tryz.prog.typeName? 3 u = some "*errors.errorString") : u = 260 :=
  typeName_ptr_named (nm := "errors.errorString") (by rw [star]; kernel_rfl) (by kernel_rfl) (by decide) u (by rw [star]; exact h)

/-- The listed variables, as the condition has them. -/
abbrev laidAll : List (String × DataW Unit) := Rows.opensRow.laid

theorem listed : Sents.Listed Tryz.prog 71 "*errors.errorString" gl laidAll :=
  ⟨⟨_, rfl⟩, by kernel_rfl, by kernel_rfl, ⟨_, rfl⟩, by kernel_rfl, by kernel_rfl, ⟨_, rfl⟩, by kernel_rfl, by kernel_rfl, ⟨_, rfl⟩, by kernel_rfl, by kernel_rfl, ⟨_, rfl⟩, by kernel_rfl, by kernel_rfl, ⟨_, rfl⟩, by kernel_rfl, by kernel_rfl,
   ⟨_, rfl⟩, by kernel_rfl, by kernel_rfl, ⟨_, rfl⟩, by kernel_rfl, by kernel_rfl, ⟨_, rfl⟩, by kernel_rfl, by kernel_rfl, ⟨_, rfl⟩, by kernel_rfl, by kernel_rfl, ⟨_, rfl⟩, by kernel_rfl, by kernel_rfl, trivial⟩

theorem sents_of {W : World} (h : laidMetH Tryz.prog laidAll W) : ∃ A : Nat → Addr, Sents.Holds W 260 gl 11 A := by
  rw [MakeChecks.laidMetH_plain _ _ _ (by kernel_rfl)] at h
  exact Sents.of_laid Tryz.underlying71 row121 Tryz.underlying260 Tryz.underlying274 rfl rfl Tryz.underlying9 cells142 cells9 listed h

/-- The door's own heap meets the condition. -/
theorem door_met (os : Os) (args : Array Value) : laidMetH Tryz.prog laidAll ((World.doorLaid Tryz.prog 400 os).forCall (fun _ _ => 0) ⟨#[], args, []⟩).memory :=
  laidMetH_of_parts3 (fuel := 8) (laidMet_of_run' 8 (by kernel_rfl) (by kernel_rfl)) (by kernel_rfl) (by kernel_rfl)

end Go.Proofs.YtojpjaifhjigfaaGreatDoor
