/- What is asked of a pair whose agents have taken nothing. -/
import Derived.Test.YtkdmmpbpjmpinaaDoorKeepTexts
namespace Go.Proofs.YtkdmmpbpjmpinaaDoor
open Go.RowKit Go.Maps

set_option maxHeartbeats 400000 in
theorem dead_nil (g : Nat) (w : World) : Calls Tryd.prog 24 #[.pointer (some ⟨g, 0, none⟩)] w fun e w' => e = .returned (.slice none 0 0) ∧ w' = w := by
  go_enter Tryd.func24, Tryd.ntmps24
  go_wp2
  go_ret
  exact ⟨rfl, rfl⟩

set_option maxHeartbeats 400000 in
theorem waiting_nil (g : Nat) (w : World) : Calls Tryd.prog 27 #[.pointer (some ⟨g, 0, none⟩)] w fun e w' => e = .returned (.map none) ∧ w' = w := by
  go_enter Tryd.func27, Tryd.ntmps27
  go_wp2
  go_ret
  exact ⟨rfl, rfl⟩

set_option maxHeartbeats 400000 in
theorem keepMap_nil (g o : Nat) (w : World) : Calls Tryd.prog 29 #[.pointer (some ⟨g, o, none⟩), .map none] w fun e w' => e = .returned (.tuple #[]) ∧ w' = w := by
  have hq := fun w => run_eql_map_nil (P := Tryd.prog) w 27 9 3 none Tryd.underlying27
  go_enter Tryd.func29, Tryd.ntmps29
  go_wp2
  first | go_end0 | refine bodyPost_ret (results_none rfl _ _ _) rfl ?_
  exact ⟨rfl, rfl⟩

set_option maxHeartbeats 400000 in
theorem died_nil (g : Nat) (w : World) (h14 : w.cell? ⟨g, 14, none⟩ = some (.slice none 0 0)) : Calls Tryd.prog 25 #[.pointer (some ⟨g, 0, none⟩)] w fun e w' => e = .returned (.slice none 0 0) ∧ w' = w := by
  go_enter Tryd.func25, Tryd.ntmps25
  go_wp2
  refine wp_loop_rounds 1 ?_
  rw [rounds_succ]
  go_wp2
  go_ret
  exact ⟨rfl, rfl⟩

set_option maxHeartbeats 400000 in
theorem pending_nil (g : Nat) (s : ByteArray) (w : World) (h13 : w.cell? ⟨g, 13, none⟩ = some (.slice none 0 0)) : Calls Tryd.prog 46 #[.pointer (some ⟨g, 0, none⟩), .string s] w fun e w' => e = .returned (.int .i64 0) ∧ w' = w := by
  go_enter Tryd.func46, Tryd.ntmps46
  go_wp2
  refine wp_loop_rounds 1 ?_
  rw [rounds_succ]
  go_wp2
  go_ret
  exact ⟨rfl, rfl⟩

set_option maxHeartbeats 400000 in
theorem waits_nil (g g0 nk t : Nat) (ss : List (List UInt8)) (w : World) (ht : t < ss.length) (h11 : w.cell? ⟨g, 11, none⟩ = some (.slice (some ⟨g0, 0, none⟩) ss.length nk)) (h13 : w.cell? ⟨g, 13, none⟩ = some (.slice none 0 0)) (hc : w.cell? ⟨g0, t, none⟩ = some (encStr (ss[t]'ht))) :
    Calls Tryd.prog 41 #[.pointer (some ⟨g, 0, none⟩), .int .i64 t] w fun e w' => e = .returned (.int .i64 0) ∧ w' = w := by
  have htI : (t : Int) < (ss.length : Int) := by omega
  go_enter Tryd.func41, Tryd.ntmps41
  go_wp2_with fail
  refine (pending_nil g _ _ h13).mono ?_
  rintro e w' ⟨rfl, rfl⟩
  go_wp2_with fail
  go_ret
  exact ⟨rfl, rfl⟩

set_option maxRecDepth 100000 in
set_option maxHeartbeats 400000 in
theorem counts_nil (gp gy nk : Nat) (na : Option Addr) (B : Nat) (ss : List (List UInt8)) (w : World) (hx : w.cell? ⟨gp, 1, none⟩ = some (.pointer (some ⟨gy, 0, none⟩))) (h11 : w.cell? ⟨gy, 11, none⟩ = some (.slice na ss.length nk))
    (h13 : w.cell? ⟨gy, 13, none⟩ = some (.slice none 0 0)) (hT : Texts w B (.slice na ss.length nk) ss) (hs : ∀ x ∈ ss, x.length ≤ maxLen) (hbig : (ss.length : Int) ≤ 8796093022208) :
    Calls Tryd.prog 28 #[.pointer (some ⟨gp, 0, none⟩), .map none] w fun e w' => e = .returned (.bool true) ∧ w' = w := by
  have hlen := fun (W : World) ty => Maps.len_nil (P := Tryd.prog) (w := W) (k := 9) (t := 27) (e := 3) Tryd.underlying27 ty
  have HT := hide hT
  have Hs := hide hs
  clear hT hs
  go_enter Tryd.func28, Tryd.ntmps28
  go_wp2_with fail
  go_loop [5, 6, 7] (fun n s i => n = .int .i64 0 ∧ s = .bool true ∧ ∃ t : Nat, t ≤ ss.length ∧ i = .int .i64 t) (fun _ _ i => ss.length - (intOf i).toNat)
  case atStart => exact ⟨rfl, rfl, 0, Nat.zero_le _, rfl⟩
  case round =>
    obtain ⟨rfl, rfl, t, ht, rfl⟩ := hrel
    by_cases hlt : t < ss.length
    · have htI : (t : Int) < (ss.length : Int) := by omega
      obtain ⟨g0, rfl, hR, _⟩ := HT.out.head (by omega)
      have hct : w.cell? ⟨g0, t, none⟩ = some (encStr (ss[t]'hlt)) := hR.cell t hlt
      have hlk := fun W => Maps.look_nil (P := Tryd.prog) (w := W) (t := 27) (e := 3) true lawS Tryd.underlying27 (zeroInt W) (keyOfStr (Hs.out (ss[t]'hlt) (List.getElem_mem hlt)))
      simp only [if_true] at hlk
      have HR := hide hR
      clear hR
      generalize hx' : ss[t]'hlt = x at *
      go_wp2_with fail
      refine (waits_nil gy g0 nk t ss _ hlt h11 h13 (by rw [hx']; exact hct)).mono ?_
      rintro e w' ⟨rfl, hww⟩
      go_wp2_with fail
      go_round
      case rel => exact ⟨rfl, rfl, t + 1, by omega, by go_num⟩
      case measure => simp [intOf]; omega
    · go_wp2_with fail
      go_ret
      exact ⟨rfl, rfl⟩

/-- What World.dead leaves. -/
def DeadPost (gw n : Nat) (cur : Array Value) (w : World) (e : Ending) (w' : World) : Prop := e = .returned (.bool true) ∧ ∃ ta' tk', Blk w' gw (cur.setIfInBounds 23 (.slice ta' (n + 4 + 4) tk')) 43 ∧ BookAt w' gw (.slice ta' (n + 4 + 4) tk') (n + 4 + 4) ∧ Frame w w' gw

theorem set23 {cur : Array Value} {x y : Value} (h : cur[23]? = some y) : (cur.setIfInBounds 23 x)[23]? = some x := by
  have := (Array.getElem?_eq_some_iff.1 h).1
  simp [this]

set_option maxRecDepth 100000 in
set_option maxHeartbeats 1000000 in
theorem wDead_any (gw gp B n : Nat) (ta : Option Addr) (tk : Nat) (cur : Array Value) (c : Cfg) (m : Option Nat) (D : DataW Unit) (w : World) (hK : Blk w gw cur 43) (hc : cur[23]? = some (.slice ta n tk)) (hBk : BookAt w gw (.slice ta n tk) n) (h4 : n % 4 = 0) (hn : (n : Int) ≤ 1000000)
    (hP : PairAt w B gp c m D) :
    Calls Tryd.prog 17 #[.pointer (some ⟨gw, 0, none⟩), .pointer (some ⟨gp, 0, none⟩)] w fun e w' => DeadPost gw n cur w e w' := by
  obtain ⟨gx, gy, nv, ss, qv, la, lk, sv, lg, hB1, hB2, hkp, hky, hT, hPm⟩ := hP
  have p0 : w.cell? ⟨gp, 0, none⟩ = some (.pointer (some ⟨gx, 0, none⟩)) := hkp.cell 0
  have p1 : w.cell? ⟨gp, 1, none⟩ = some (.pointer (some ⟨gy, 0, none⟩)) := hkp.cell 1
  have y14 : w.cell? ⟨gy, 14, none⟩ = some (.slice none 0 0) := hky.cell 14
  have HK := hide hK
  have HC := hide hc
  have HBk := hide hBk
  clear hK hc hBk hkp hky hT hPm
  go_enter Tryd.func17, Tryd.ntmps17
  go_wp2_with fail
  refine (dead_nil gx _).mono ?_
  rintro e w' ⟨rfl, rfl⟩
  go_wp2_with fail
  refine (dead_nil gx _).mono ?_
  rintro e w' ⟨rfl, rfl⟩
  go_wp2_with fail
  refine (died_nil gy _ y14).mono ?_
  rintro e w' ⟨rfl, hww⟩
  have Hww := hide hww
  clear hww
  go_wp2_with fail
  refine wp_loop_rounds 1 ?_
  rw [rounds_succ]
  go_wp2_with fail
  obtain ⟨ls, hr, hll, hbl⟩ := HBk.out
  rw [Hww.out]
  refine (keepTexts_nil gw n ta tk ls cur _ HK.out HC.out hr (by omega)).mono ?_
  rintro e w1 ⟨rfl, ta1, tk1, v1, v2, v3, hK1, hR1, q1, q2, q3, hF1⟩
  have hBk1 := bookAt_keep h4 hll hbl hR1 q1 q2 q3 hF1 hr
  have HK1 := hide hK1
  have HF1 := hide hF1
  have HBk1 := hide hBk1
  clear hK1 hR1 q1 q2 q3 hF1 hBk1 hr hll hbl p0 p1 y14
  go_wp2_with fail
  obtain ⟨ls1, hr1, hll1, hbl1⟩ := HBk1.out
  refine (keepTexts_nil gw (n + 4) ta1 tk1 ls1 _ _ HK1.out (set23 HC.out) hr1 (by omega)).mono ?_
  rintro e w2 ⟨rfl, ta2, tk2, v1, v2, v3, hK2, hR2, q1, q2, q3, hF2⟩
  have hBk2 := bookAt_keep (by omega) hll1 hbl1 hR2 q1 q2 q3 hF2 hr1
  have HK2 := hide hK2
  have HF2 := hide hF2
  have HBk2 := hide hBk2
  clear hK2 hR2 q1 q2 q3 hF2 hBk2 hr1 hll1 hbl1
  go_wp2_with fail
  go_ret
  refine ⟨rfl, ta2, tk2, ?_, HBk2.out, HF1.out.trans HF2.out⟩
  have := HK2.out
  rw [Array.setIfInBounds_setIfInBounds] at this
  exact this

theorem perm_strs {D : DataW Unit} {ss : List (List UInt8)} (hPm : ss.Perm (strKeys D)) {w : World} {m : Option Nat} (hM : MapAt w m D) : (∀ x ∈ ss, x.length ≤ maxLen) ∧ (ss.length : Int) ≤ 8796093022208 := by
  rcases hM with ⟨_, rfl⟩ | ⟨b, n, _, h2, h3⟩
  · have e : ss = [] := by have := hPm.length_eq; rw [show (strKeys (.map [] : DataW Unit)).length = 0 from rfl] at this; exact List.eq_nil_of_length_eq_zero this
    subst e
    exact ⟨fun x hx => (by cases hx), by simp⟩
  · refine ⟨fun x hx => strKeys_le h2 Tryd.underlying9 x (hPm.mem_iff.1 hx), ?_⟩
    have := hPm.length_eq; rw [size_strKeys h2] at this; have := h2.size_le; unfold big at h3; omega

set_option maxRecDepth 100000 in
set_option maxHeartbeats 1000000 in
theorem wWaiting_any (gw gp B : Nat) (c : Cfg) (m : Option Nat) (D : DataW Unit) (w : World) (hP : PairAt w B gp c m D) (hs : ∀ ss : List (List UInt8), ss.Perm (strKeys D) → (∀ x ∈ ss, x.length ≤ maxLen) ∧ (ss.length : Int) ≤ 8796093022208) :
    Calls Tryd.prog 18 #[.pointer (some ⟨gw, 0, none⟩), .pointer (some ⟨gp, 0, none⟩)] w fun e w' => e = .returned (.bool true) ∧ w' = w := by
  obtain ⟨gx, gy, nv, ss, qv, la, lk, sv, lg, hB1, hB2, hkp, hky, hT, hPm⟩ := hP
  obtain ⟨hs1, hs2⟩ := hs ss hPm
  obtain ⟨na, nk, rfl⟩ := hT.shape
  have p0 : w.cell? ⟨gp, 0, none⟩ = some (.pointer (some ⟨gx, 0, none⟩)) := hkp.cell 0
  have p1 : w.cell? ⟨gp, 1, none⟩ = some (.pointer (some ⟨gy, 0, none⟩)) := hkp.cell 1
  have HCt := hide (counts_nil gp gy nk na B ss w p1 (hky.cell 11) (hky.cell 13) hT hs1 hs2)
  clear hkp hky hT hPm hs hs1 hs2
  go_enter Tryd.func18, Tryd.ntmps18
  go_wp2_with fail
  refine (waiting_nil gx _).mono ?_
  rintro e w' ⟨rfl, rfl⟩
  go_wp2_with fail
  refine (waiting_nil gx _).mono ?_
  rintro e w' ⟨rfl, rfl⟩
  go_wp2_with fail
  refine HCt.out.mono ?_
  rintro e w' ⟨rfl, hw1⟩
  subst hw1
  go_wp2_with fail
  refine HCt.out.mono ?_
  rintro e w' ⟨rfl, hw1⟩
  subst hw1
  go_wp2_with fail
  refine (keepMap_nil gw _ _).mono ?_
  rintro e w' ⟨rfl, hw1⟩
  subst hw1
  go_wp2_with fail
  refine (keepMap_nil gw _ _).mono ?_
  rintro e w' ⟨rfl, hw1⟩
  subst hw1
  go_wp2_with fail
  go_ret
  exact ⟨rfl, rfl⟩
end Go.Proofs.YtkdmmpbpjmpinaaDoor
