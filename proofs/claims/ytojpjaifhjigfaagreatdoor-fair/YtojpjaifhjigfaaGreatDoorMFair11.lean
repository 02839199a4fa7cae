/- Steps of the proof (several texts in one): ProofBase, FairBal, KeepBody, FairSubs, FairRun, FairGo, FairOver, FairStart, FairCalls, FairRows. -/
import Derived.Test.YtojpjaifhjigfaaGreatDoorRows
import Derived.Test.YtojpjaifhjigfaaGreatDoorCards
import Derived.Test.YtojpjaifhjigfaaGreatDoorTie
import Derived.Test.YtojpjaifhjigfaaGreatDoorMFair01
import Derived.ProofKit
import Derived.LaidMore
import Derived.OpenShut
import Derived.Stop.Joined
import Derived.SevenTiedAt
import Derived.Test.YtojpjaifhjigfaaGreatDoorMFair02
import Derived.Test.YtojpjaifhjigfaaGreatDoorMFair09
import Derived.Test.YtojpjaifhjigfaaGreatDoorMFair10

/- What every proof over this seat takes of the rows: the listed error variables, and a world that meets them. -/
namespace Go.Proofs.YtojpjaifhjigfaaGreatDoor
open Go.ChangeShapes Go.WideShapes Go.ChangeAt Go.WideMaps Go.WideElems Go.RowKit

theorem own : ownKnob Tryz.prog.godebug = none := by kernel_rfl
theorem cells142 : Tryz.prog.cellsOf 274 = 1 := by kernel_rfl
theorem cells9 : Tryz.prog.cellsOf 9 = 1 := by kernel_rfl
theorem star : "*" ++ "errors.errorString" = "*errors.errorString" := by decide
theorem row121 (u : TypeId) (h : Tryz.prog.typeName? 3 u = some "*errors.errorString") : u = 260 :=
  typeName_ptr_named (nm := "errors.errorString") (by rw [star]; kernel_rfl) (by kernel_rfl) (by decide) u (by rw [star]; exact h)

/-- The listed variables, as the condition has them. -/
abbrev laidAll : List (String × DataW Unit) := Rows.opensRow.laid

theorem listed : Sents.Listed Tryz.prog 71 "*errors.errorString" gl laidAll :=
  ⟨⟨_, rfl⟩, by kernel_rfl, by kernel_rfl, ⟨_, rfl⟩, by kernel_rfl, by kernel_rfl, ⟨_, rfl⟩, by kernel_rfl, by kernel_rfl, ⟨_, rfl⟩, by kernel_rfl, by kernel_rfl, ⟨_, rfl⟩, by kernel_rfl, by kernel_rfl, ⟨_, rfl⟩, by kernel_rfl, by kernel_rfl,
   ⟨_, rfl⟩, by kernel_rfl, by kernel_rfl, ⟨_, rfl⟩, by kernel_rfl, by kernel_rfl, ⟨_, rfl⟩, by kernel_rfl, by kernel_rfl, ⟨_, rfl⟩, by kernel_rfl, by kernel_rfl, ⟨_, rfl⟩, by kernel_rfl, by kernel_rfl, trivial⟩

theorem sents_of {W : World} (h : laidMetH Tryz.prog laidAll W) : ∃ A : Nat → Addr, Sents.Holds W 260 gl 11 A := by
  rw [MakeChecks.laidMetH_plain _ _ _ (by kernel_rfl)] at h
  exact Sents.of_laid Tryz.underlying71 row121 Tryz.underlying260 Tryz.underlying274 rfl rfl Tryz.underlying9 cells142 cells9 listed h

/-- The door's own heap meets the condition. -/
theorem door_met (os : Os) (args : Array Value) : laidMetH Tryz.prog laidAll ((World.doorLaid Tryz.prog 400 os).forCall (fun _ _ => 0) ⟨#[], args, []⟩).memory :=
  laidMetH_of_parts3 (fuel := 8) (laidMet_of_run' 8 (by kernel_rfl) (by kernel_rfl)) (by kernel_rfl) (by kernel_rfl)

end Go.Proofs.YtojpjaifhjigfaaGreatDoor

/- Deficit round robin: while everybody waits, what went, divided by the quanta, is nearly alike. -/
namespace Go.Proofs.YtojpjaifhjigfaaGreatDoor
open Go.RowKit Go.Maps

/-- How many quanta each has had, when R rounds are over and the turn is t's. -/
def rho (R : Int) (t i : Nat) : Int := if 0 < i ∧ i ≤ t then R + 1 else R
/-- What went (b) and what is left are whole quanta. -/
structure Bal (n : Nat) (q : List Int) (b : Nat → Int) (s : Nat × List Int) : Prop where
  eq : ∃ R : Int, ∀ i, i < n → b i + s.2.getD i 0 = rho R s.1 i * q.getD i 0
  top : s.2.getD s.1 0 ≤ q.getD s.1 0 + 63

theorem Bal.pass {n : Nat} {q : List Int} {b : Nat → Int} {s : Nat × List Int} (h : Bal n q b s) (hr : Rot n s) {sizes : List Nat} (hs : ∀ i, sizes.getD i 0 ≤ 64) (h0 : 0 < sizes.getD s.1 0) (hno : allowsR sizes s.1 s.2 = false) : Bal n q b (passR sizes q s) := by
  obtain ⟨t, cr⟩ := s
  obtain ⟨R, he⟩ := h.eq
  have ht : t < n := hr.turn
  have hl : cr.length = n := hr.len
  simp only at he h0 hno
  have hct : cr.getD t 0 ≤ 63 := by
    have hz := hs t
    unfold allowsR at hno
    rw [Bool.and_eq_false_iff, decide_eq_false_iff_not, decide_eq_false_iff_not] at hno
    omega
  have hlow : ∀ i, i < n → cr.getD i 0 ≤ 63 := fun i hi => by
    by_cases e : i = t
    · subst e; exact hct
    · exact hr.low i hi e
  have hn : ¬ sizes.getD t 0 = 0 := by omega
  have ep : passR sizes q (t, cr) = ((t + 1) % n, cr.set ((t + 1) % n) (cr.getD ((t + 1) % n) 0 + q.getD ((t + 1) % n) 0)) := by
    unfold passR
    simp only [hl, if_neg hn]
  rw [ep]
  have ht' : (t + 1) % n < n := Nat.mod_lt _ (by omega)
  refine ⟨?_, ?_⟩
  · by_cases hw : t + 1 < n
    · have em : (t + 1) % n = t + 1 := Nat.mod_eq_of_lt hw
      rw [em]
      refine ⟨R, fun i hi => ?_⟩
      simp only
      rw [getD_set (by omega)]
      have := he i hi
      by_cases e : t + 1 = i
      · subst e
        rw [if_pos rfl]
        unfold rho at this ⊢
        rw [if_neg (by omega)] at this
        rw [if_pos (by omega), Int.add_mul, Int.one_mul]
        omega
      · rw [if_neg e, this]
        unfold rho
        by_cases hi2 : 0 < i ∧ i ≤ t
        · rw [if_pos hi2, if_pos (by omega)]
        · rw [if_neg hi2, if_neg (by omega)]
    · have en : t + 1 = n := by omega
      have em : (t + 1) % n = 0 := by rw [en]; exact Nat.mod_self n
      rw [em]
      refine ⟨R + 1, fun i hi => ?_⟩
      simp only
      rw [getD_set (by omega)]
      have := he i hi
      by_cases e : 0 = i
      · subst e
        rw [if_pos rfl]
        unfold rho at this ⊢
        rw [if_neg (by omega)] at this
        rw [if_neg (by omega), Int.add_mul, Int.one_mul]
        omega
      · rw [if_neg e, this]
        unfold rho
        rw [if_pos (by omega), if_neg (by omega)]
  · simp only
    rw [getD_set (by omega), if_pos rfl]
    have := hlow _ ht'
    omega

theorem Bal.turns {n : Nat} {q : List Int} {b : Nat → Int} {sizes : List Nat} (hs : ∀ i, sizes.getD i 0 ≤ 64) (hq : ∀ i, i < n → 64 ≤ q.getD i 0 ∧ q.getD i 0 ≤ 1000) (hp : ∀ i, i < n → 0 < sizes.getD i 0) : ∀ (m : Nat) (s : Nat × List Int), Rot n s → Bal n q b s → Bal n q b (turnsR sizes q m s)
  | 0, _, _, h => h
  | m + 1, s, hr, h => by
    unfold turnsR
    cases e : allowsR sizes s.1 s.2 with
    | true => simpa using h
    | false => simpa using Bal.turns hs hq hp m _ (hr.pass hs hq e).1 (h.pass hr hs (hp _ hr.turn) e)

/-- Whoever has the turn pays for what goes. -/
theorem Bal.pay {n : Nat} {q : List Int} {b : Nat → Int} {s : Nat × List Int} (h : Bal n q b s) (hr : Rot n s) {z : Int} (hz : 0 ≤ z) : Bal n q (fun i => if i = s.1 then b i + z else b i) (s.1, s.2.set s.1 (s.2.getD s.1 0 - z)) := by
  obtain ⟨R, he⟩ := h.eq
  have ht := hr.turn
  have hl := hr.len
  refine ⟨⟨R, fun i hi => ?_⟩, ?_⟩
  · simp only
    rw [getD_set (by omega)]
    have := he i hi
    by_cases e : i = s.1
    · subst e
      rw [if_pos rfl, if_pos rfl]
      omega
    · rw [if_neg e, if_neg (fun e' => e e'.symm)]
      exact this
  · simp only
    rw [getD_set (by omega), if_pos rfl]
    have := h.top
    omega

/-- What went of two of them, one of whom has the turn. -/
theorem Bal.fair {n : Nat} {q : List Int} {b : Nat → Int} {s : Nat × List Int} (h : Bal n q b s) (hr : Rot n s) (hq : ∀ i, i < n → 64 ≤ q.getD i 0 ∧ q.getD i 0 ≤ 1000) {t : Nat} (ht : t < n) :
    b t * q.getD s.1 0 - b s.1 * q.getD t 0 < 3 * q.getD t 0 * q.getD s.1 0 ∧ -(3 * q.getD t 0 * q.getD s.1 0) < b t * q.getD s.1 0 - b s.1 * q.getD t 0 := by
  obtain ⟨R, he⟩ := h.eq
  have hw := hr.turn
  have e1 := he t ht
  have e2 := he s.1 hw
  have p1 := hr.pos t ht
  have p2 := hr.pos s.1 hw
  have htop := h.top
  obtain ⟨a1, _⟩ := hq t ht
  obtain ⟨a2, _⟩ := hq s.1 hw
  have hlow : t ≠ s.1 → s.2.getD t 0 ≤ 63 := fun hne => hr.low t ht hne
  have hrho : rho R s.1 t = rho R s.1 s.1 ∨ rho R s.1 t = rho R s.1 s.1 - 1 := by
    unfold rho
    by_cases c1 : 0 < t ∧ t ≤ s.1
    · rw [if_pos c1, if_pos (by omega)]; exact Or.inl rfl
    · rw [if_neg c1]
      by_cases c2 : 0 < s.1 ∧ s.1 ≤ s.1
      · rw [if_pos c2]; exact Or.inr (by omega)
      · rw [if_neg c2]; exact Or.inl rfl
  by_cases hne : t = s.1
  · subst hne
    have : 0 < 3 * q.getD s.1 0 * q.getD s.1 0 := Int.mul_pos (by omega) (by omega)
    omega
  · have hlo := hlow hne
    generalize rho R s.1 t = rt at *
    generalize rho R s.1 s.1 = rw' at *
    generalize q.getD t 0 = qt at *
    generalize q.getD s.1 0 = qw at *
    generalize s.2.getD t 0 = ct at *
    generalize s.2.getD s.1 0 = cw at *
    have eb1 : b t = rt * qt - ct := by omega
    have eb2 : b s.1 = rw' * qw - cw := by omega
    rw [eb1, eb2]
    have m1 : ct * qw ≤ qt * qw := Int.mul_le_mul_of_nonneg_right (by omega) (by omega)
    have m2 : 0 ≤ ct * qw := Int.mul_nonneg (by omega) (by omega)
    have m3 : cw * qt ≤ (2 * qw) * qt := Int.mul_le_mul_of_nonneg_right (by omega) (by omega)
    have m4 : 0 ≤ cw * qt := Int.mul_nonneg (by omega) (by omega)
    have m5 : 0 < qt * qw := Int.mul_pos (by omega) (by omega)
    have x1 : (2 * qw) * qt = 2 * (qt * qw) := by rw [Int.mul_assoc, Int.mul_comm qw qt]
    have x2 : 3 * qt * qw = 3 * (qt * qw) := Int.mul_assoc _ _ _
    have x3 : (rt * qt - ct) * qw = rt * (qt * qw) - ct * qw := by rw [Int.sub_mul, Int.mul_assoc]
    have x4 : (rw' * qw - cw) * qt = rw' * (qt * qw) - cw * qt := by rw [Int.sub_mul, Int.mul_assoc, Int.mul_comm qw qt]
    rw [x1] at m3
    rw [x2, x3, x4]
    rcases hrho with rfl | rfl
    · omega
    · rw [Int.sub_mul, Int.one_mul]
      omega
end Go.Proofs.YtojpjaifhjigfaaGreatDoor

/- conduitkeep.body. -/
namespace Go.Proofs.YtojpjaifhjigfaaGreatDoor
open Go.RowKit Go.Maps

/-- A body of n bytes. -/
def kbody (n : Nat) : List UInt8 := (List.range n).map fun i => UInt8.ofNat (97 + i % 26)
theorem kbody_len (n : Nat) : (kbody n).length = n := by simp [kbody]
theorem kbody_succ (n : Nat) : kbody (n + 1) = kbody n ++ [UInt8.ofNat (97 + n % 26)] := by simp [kbody, List.range_succ]

theorem one_row (w : World) (x : Value) : (w.alloc (.cells #[x] 5)).ownsRow 0 5 1 (.slice (some ⟨w.heap.size, 0, none⟩) 1 1) 1 [x] :=
  ⟨rfl, Or.inr ⟨_, _, _, rfl, Nat.zero_le _, obj_new rfl _, Nat.le_refl _, by unfold maxLen; omega, rfl, rfl⟩⟩
theorem convert_one (w : World) (x : UInt8) : (convert 156 9 (.slice (some ⟨w.heap.size, 0, none⟩) 1 1)).run Tryz.prog (w.alloc (.cells #[.int .u8 x.toNat] 5)) = .ok (encStr [x]) (w.alloc (.cells #[.int .u8 x.toNat] 5)) := by
  refine run_convert_bytes_back _ 156 9 5 ⟨w.heap.size, 0, none⟩ 1 [x] Tryz.underlying156 Tryz.underlying5 Tryz.underlying9 (fun j hj => ?_)
  exact (one_row w _).cells (by simp [Value.ownBlock]) j _ (by match j, hj with | 0, _ => rfl)

set_option maxRecDepth 100000 in
set_option maxHeartbeats 1000000 in
theorem kbody_any (n : Nat) (w : World) (h : n ≤ 64) : Calls Tryz.prog 39 #[.int .i64 n] w fun e w' => e = .returned (encStr (kbody n)) ∧ Below w.heap.size w w' := by
  go_enter Tryz.func39, Tryz.ntmps39
  go_wp2_with fail
  go_loopw [3, 4] (fun s i wr => ∃ k : Nat, k ≤ n ∧ s = encStr (kbody k) ∧ i = .int .i64 k ∧ Below w.heap.size w wr) (fun _ i _ => n - (intOf i).toNat)
  case atStart => exact ⟨0, Nat.zero_le _, rfl, rfl, Below.refl _ _⟩
  case round =>
    obtain ⟨k, hk, rfl, rfl, hnx⟩ := hrel
    have Hnx := hide hnx
    clear hnx
    by_cases hlt : k < n
    · have hltI : (k : Int) < (n : Int) := by omega
      have e1 : (97 + (k : Int) % 26) = ((UInt8.ofNat (97 + k % 26)).toNat : Int) := by
        rw [UInt8.toNat_ofNat']
        omega
      have hcv : (convert 156 9 (.slice (some ⟨wr.heap.size, 0, none⟩) 1 1)).run Tryz.prog (wr.alloc (.cells #[.int .u8 (97 + (k : Int) % 26)] 5)) = .ok (encStr [UInt8.ofNat (97 + k % 26)]) (wr.alloc (.cells #[.int .u8 (97 + (k : Int) % 26)] 5)) := by
        have := convert_one wr (UInt8.ofNat (97 + k % 26))
        rw [← e1] at this
        exact this
      have hsu := kbody_succ k
      have hcat := fun w => run_concat (kbody k) [UInt8.ofNat (97 + k % 26)] w (by rw [kbody_len]; simp; omega)
      generalize UInt8.ofNat (97 + k % 26) = x at *
      have Hsu := hide hsu
      clear e1 hsu
      generalize hkb : kbody k = kb at *
      clear hkb
      unfold encStr at *
      go_wp2_with fail
      go_roundw
      case rel => exact ⟨k + 1, by omega, by rw [Hsu.out], by go_num, (Hnx.out).alloc Hnx.out.size _⟩
      case measure => simp [intOf]; omega
    · obtain rfl : k = n := by omega
      have hgt : ¬ ((k : Int) < (k : Int)) := by omega
      go_wp2_with fail
      go_ret
      exact ⟨rfl, Hnx.out⟩
end Go.Proofs.YtojpjaifhjigfaaGreatDoor

/- Fair: the batches that are handed in. -/
namespace Go.Proofs.YtojpjaifhjigfaaGreatDoor
open Go.RowKit Go.Maps

/-- The batch that Fair hands in as number i, of N tenants. -/
def fbat (szs : List Int) (N i : Nat) : Bat := ⟨0, kn.getD (i % N) [], kid i, kbody (pickN (szs.getD i 0) 64), 1, 0⟩
theorem made_good (zs : List Int) : GoodC (madeC zs) (DT (madeT zs (1 + pickN (zs.getD 9 0) 4))) := by
  have h9 := pickN_lt (zs.getD 9 0) (n := 4) (by omega)
  have h0 := pickN_lt (zs.getD 0 0) (n := 3) (by omega)
  have h1 := pickN_lt (zs.getD 1 0) (n := 5) (by omega)
  have h2 := pickN_lt (zs.getD 2 0) (n := 50) (by omega)
  have h3 := pickN_lt (zs.getD 3 0) (n := 80) (by omega)
  have h4 := pickN_lt (zs.getD 4 0) (n := 8) (by omega)
  have h5 := pickN_lt (zs.getD 5 0) (n := 200) (by omega)
  have h6 := pickN_lt (zs.getD 6 0) (n := 300) (by omega)
  have h7 := pickN_lt (zs.getD 7 0) (n := 1 + pickN (zs.getD 4 0) 8) (by omega)
  have h8 := pickN_lt (zs.getD 8 0) (n := 4) (by omega)
  refine ⟨?_, (made_goodQ zs (by omega) (by omega)).1, quarter_ok h8⟩
  simp only [Cfg.numB, Cfg.nums, madeC, List.all_cons, List.all_nil, inB, Bool.and_true, Bool.and_eq_true, decide_eq_true_eq]
  omega
/-- The tenants of what is made. -/
theorem made_keys (zs : List Int) {k : Nat} (h1 : 1 ≤ k) (h2 : k ≤ 4) : strKeys (DT (madeT zs k)) = kn.take k := by
  rcases (by omega : k = 1 ∨ k = 2 ∨ k = 3 ∨ k = 4) with rfl | rfl | rfl | rfl
  · have e : DT (madeT zs 1) = _ := dt1 _
    rw [e]; rfl
  · have e : DT (madeT zs 2) = _ := dt2 _ _
    rw [e]; rfl
  · have e : DT (madeT zs 3) = _ := dt3 _ _ _
    rw [e]; rfl
  · have e : DT (madeT zs 4) = _ := dt4 _ _ _ _
    rw [e]; rfl

/-- An agent with k batches handed in. -/
structure FSub (zs szs : List Int) (N k : Nat) (M : Ag) : Prop where
  bs : M.bs = (List.range k).map (fbat szs N)
  os : M.os = (Ag.new (madeC zs) M.D M.ns).os
  rt : ∀ r ∈ M.rt, r.fr ≤ 0
  now : M.now = 0
  c : M.c = madeC zs
  D : M.D = DT (madeT zs N)
  has : ∀ t, t < N → Maps.has M.D (.string (kn.getD t [])) = true

theorem FSub.ok {zs szs : List Int} {N k : Nat} {M : Ag} (h : FSub zs szs N k M) (hN : 0 < N) (hk : k < 100) : M.refusal (fbat szs N k) = 0 := by
  have hl : M.bs.length = k := by rw [h.bs]; simp
  have hdd : destB M 0 = true := by simp [destB, h.c, madeC]; omega
  have hf : findId M.bs (kid k) = -1 := by
    unfold findId
    have : M.bs.findIdx? (fun b => b.id == kid k) = none := by
      rw [List.findIdx?_eq_none_iff]
      intro b hb
      rw [h.bs] at hb
      obtain ⟨j, hj, rfl⟩ := List.mem_map.1 hb
      have hj' : j < k := List.mem_range.1 hj
      simp only [beq_eq_false_iff_ne, ne_eq]
      intro e2
      have := kid_inj (by omega) (by omega) (show kid j = kid k from e2)
      omega
    rw [this]
  have hp : ∀ (d : Int) x, d ≠ 0 → pend M.bs d x = [] := fun d x hd => List.eq_nil_iff_forall_not_mem.2 fun i hi => by
    obtain ⟨b, h1, h2, _⟩ := mem_pend.1 hi
    have hb := List.mem_of_getElem? h1
    rw [h.bs] at hb
    obtain ⟨j, _, rfl⟩ := List.mem_map.1 hb
    exact hd h2.symm
  have hw : ∀ x, (waits M.bs x : Int) < M.c.q := fun x => by
    have hq : M.c.q = 100 := by rw [h.c]; rfl
    have a0 := pend_le M.bs 0 x
    unfold waits
    rw [hp 1 x (by omega), hp 2 x (by omega), hp 3 x (by omega)]
    simp only [List.length_nil]
    omega
  unfold Ag.refusal Ag.misfit
  have e1 : destB M (fbat szs N k).dst = true := hdd
  have e2 : Maps.has M.D (.string (fbat szs N k).ten) = true := h.has _ (Nat.mod_lt _ hN)
  have e3 : inB (fbat szs N k).id.length 1 16 = true := rfl
  have e4 : ¬ 63 < (fbat szs N k).body.length := by
    have := pickN_lt (szs.getD k 0) (n := 64) (by omega)
    show ¬ 63 < (kbody _).length
    rw [kbody_len]
    omega
  have e5 : findId M.bs (fbat szs N k).id = -1 := hf
  have e6 : ¬ M.c.q ≤ (waits M.bs (fbat szs N k).ten : Int) := by have := hw (fbat szs N k).ten; omega
  simp only [e1, e2, e3, if_neg e4, e5]
  simp only [Bool.true_eq_false, if_false, ne_eq, not_true_eq_false]
  rw [if_neg (by omega : ¬ 120 ≤ M.bs.length)]
  simp only [not_true_eq_false, if_false]
  rw [if_neg e6]
theorem FSub.next {zs szs : List Int} {N k : Nat} {M : Ag} (h : FSub zs szs N k M) (hN : 0 < N) (hk : k < 100) : FSub zs szs N (k + 1) (M.submitted (fbat szs N k)) := by
  unfold Ag.submitted
  rw [if_pos (h.ok hN hk)]
  refine ⟨?_, h.os, fun r hr => ?_, h.now, h.c, h.D, h.has⟩
  · show M.bs ++ [(fbat szs N k).fresh] = _
    rw [h.bs, List.range_succ, List.map_append]
    rfl
  · rcases List.mem_append.1 (show r ∈ M.rt ++ [⟨M.now, M.c.ba⟩] from hr) with h5 | h5
    · exact h.rt r h5
    · obtain rfl := List.mem_singleton.1 h5
      show M.now ≤ 0
      rw [h.now]
      omega
end Go.Proofs.YtojpjaifhjigfaaGreatDoor

/- Fair: whose batch stands first. -/
namespace Go.Proofs.YtojpjaifhjigfaaGreatDoor
open Go.RowKit Go.Maps

theorem head_filter {P : Nat → Bool} : ∀ {T p : Nat} {ps : List Nat}, (List.range T).filter P = p :: ps → P p = true ∧ p < T ∧ ∀ j, j < p → P j = false := by
  intro T p ps h
  have hm : p ∈ (List.range T).filter P := by rw [h]; simp
  obtain ⟨h1, h2⟩ := List.mem_filter.1 hm
  refine ⟨h2, List.mem_range.1 h1, fun j hj => ?_⟩
  cases e : P j with
  | false => rfl
  | true =>
    have hjm : j ∈ (List.range T).filter P := List.mem_filter.2 ⟨List.mem_range.2 (by have := List.mem_range.1 h1; omega), e⟩
    have hs : ((List.range T).filter P).Pairwise (· < ·) := List.Pairwise.filter _ List.pairwise_lt_range
    rw [h] at hs hjm
    rcases List.mem_cons.1 hjm with h3 | h3
    · omega
    · have := (List.pairwise_cons.1 hs).1 j h3
      omega

/-- The batches, of which each tenant's first ones are acked. -/
def fnow (szs : List Int) (N : Nat) (gone : Nat → Nat) (i : Nat) : Bat := if i / N < gone (i % N) then (fbat szs N i).ended 1 0 else fbat szs N i
theorem kn_inj {a b : Nat} (ha : a < 4) (hb : b < 4) (h : kn.getD a [] = kn.getD b []) : a = b := by
  rcases (by omega : a = 0 ∨ a = 1 ∨ a = 2 ∨ a = 3) with rfl | rfl | rfl | rfl <;> rcases (by omega : b = 0 ∨ b = 1 ∨ b = 2 ∨ b = 3) with rfl | rfl | rfl | rfl <;> first | rfl | simp [kn] at h

theorem isP_fnow {szs : List Int} {N T : Nat} {gone : Nat → Nat} (hN : 0 < N) (hN4 : N ≤ 4) {t : Nat} (ht : t < N) {i : Nat} (hi : i < T) : isP ((List.range T).map (fnow szs N gone)) (0 : Nat) (kn.getD t []) i = (decide (i % N = t) && decide (gone t ≤ i / N)) := by
  have hm := Nat.mod_lt i hN
  have e : ((List.range T).map (fnow szs N gone))[i]? = some (fnow szs N gone i) := by simp [hi]
  unfold isP
  rw [e]
  have d0 : (fnow szs N gone i).dst = 0 := by unfold fnow; split <;> rfl
  have dt : (fnow szs N gone i).ten = kn.getD (i % N) [] := by unfold fnow; split <;> rfl
  have ds : (fnow szs N gone i).st = 1 ↔ gone (i % N) ≤ i / N := by
    unfold fnow
    split
    · rename_i hlt
      simp [Bat.ended]
      omega
    · rename_i hlt
      simp [fbat]
      omega
  simp only [d0, dt]
  by_cases e1 : i % N = t
  · subst e1
    by_cases e2 : gone (i % N) ≤ i / N
    · simp [ds.2 e2, e2]
    · have : ¬ (fnow szs N gone i).st = 1 := fun hh => e2 (ds.1 hh)
      simp [this, e2]
  · have : ¬ kn.getD (i % N) [] = kn.getD t [] := fun hh => e1 (kn_inj (by omega) (by omega) hh)
    rw [decide_eq_false this, decide_eq_false e1]
    simp

/-- Whose turn it is: its next one stands first. -/
theorem fnow_head {szs : List Int} {N T : Nat} {gone : Nat → Nat} (hN : 0 < N) (hN4 : N ≤ 4) {t : Nat} (ht : t < N) (hT : t + N * gone t < T) : ∃ ps, pend ((List.range T).map (fnow szs N gone)) (0 : Nat) (kn.getD t []) = (t + N * gone t) :: ps := by
  rw [pend_range]
  simp only [List.length_map, List.length_range]
  have hmod : (t + N * gone t) % N = t := by rw [Nat.add_mul_mod_self_left]; exact Nat.mod_eq_of_lt ht
  have hdiv : (t + N * gone t) / N = gone t := by rw [Nat.add_mul_div_left _ _ hN, Nat.div_eq_of_lt ht]; omega
  have hP : isP ((List.range T).map (fnow szs N gone)) (0 : Nat) (kn.getD t []) (t + N * gone t) = true := by
    rw [isP_fnow hN hN4 ht hT, hmod, hdiv]
    simp
  cases hf : (List.range T).filter (isP ((List.range T).map (fnow szs N gone)) (0 : Nat) (kn.getD t [])) with
  | nil =>
    have : t + N * gone t ∈ (List.range T).filter (isP ((List.range T).map (fnow szs N gone)) (0 : Nat) (kn.getD t [])) := List.mem_filter.2 ⟨List.mem_range.2 hT, hP⟩
    rw [hf] at this
    cases this
  | cons p ps =>
    obtain ⟨h1, h2, h3⟩ := head_filter hf
    rw [isP_fnow hN hN4 ht h2, Bool.and_eq_true, decide_eq_true_eq, decide_eq_true_eq] at h1
    have hge : t + N * gone t ≤ p := by
      have := Nat.div_add_mod p N
      have := Nat.mul_le_mul_left N h1.2
      omega
    have hle : ¬ t + N * gone t < p := fun hh => by
      have := h3 _ hh
      rw [hP] at this
      cases this
    have : p = t + N * gone t := by omega
    subst this
    exact ⟨ps, rfl⟩
end Go.Proofs.YtojpjaifhjigfaaGreatDoor

/- Fair: one tick, one good answer. -/
namespace Go.Proofs.YtojpjaifhjigfaaGreatDoor
open Go.RowKit Go.Maps

/-- An agent of which gone t of each tenant's batches are acked. -/
structure FRun (szs : List Int) (N T : Nat) (gone : Nat → Nat) (by' : Nat → Int) (M : Ag) (o : Out) : Prop where
  bs : M.bs = (List.range T).map (fnow szs N gone)
  ho : M.os[0]? = some o
  wy : ∀ (d : Nat) o', M.os[d]? = some o' → o'.way = -1
  ns : M.ns = kn.take N
  rt : ∀ r ∈ M.rt, r.fr ≤ 0
  bal : Bal N M.quanta by' (o.turn, o.cr)
  tr : o.trip = false
  fl : o.fl = 0

theorem fnow_dst (szs : List Int) (N : Nat) (gone : Nat → Nat) (i : Nat) : (fnow szs N gone i).dst = 0 := by unfold fnow; split <;> rfl
theorem fnow_id (szs : List Int) (N : Nat) (gone : Nat → Nat) (i : Nat) : (fnow szs N gone i).id = kid i := by unfold fnow; split <;> rfl
theorem fnow_body (szs : List Int) (N : Nat) (gone : Nat → Nat) (i : Nat) : (fnow szs N gone i).body = kbody (pickN (szs.getD i 0) 64) := by unfold fnow; split <;> rfl

theorem FRun.dst {szs : List Int} {N T : Nat} {gone : Nat → Nat} {by' : Nat → Int} {M : Ag} {o : Out} (h : FRun szs N T gone by' M o) : ∀ b ∈ M.bs, b.dst = 0 := fun b hb => by
  rw [h.bs] at hb
  obtain ⟨i, _, rfl⟩ := List.mem_map.1 hb
  exact fnow_dst _ _ _ _
theorem FRun.at {szs : List Int} {N T : Nat} {gone : Nat → Nat} {by' : Nat → Int} {M : Ag} {o : Out} (h : FRun szs N T gone by' M o) {i : Nat} (hi : i < T) : M.bs[i]? = some (fnow szs N gone i) := by
  rw [h.bs]
  simp [hi]
theorem FRun.size {szs : List Int} {N T : Nat} {gone : Nat → Nat} {by' : Nat → Int} {M : Ag} {o : Out} {u : Nat} (h : FRun szs N T gone by' M o) (hi : Inv M u) (hN : 0 < N) (hN4 : N ≤ 4) {t : Nat} (ht : t < N) (hT : t + N * gone t < T) : M.size 0 (kn.getD t []) = pickN (szs.getD (t + N * gone t) 0) 64 + 1 := by
  obtain ⟨ps, hp⟩ := fnow_head (szs := szs) hN hN4 ht hT
  have hb := h.at hT
  obtain ⟨r, hr⟩ : ∃ r, M.rt[t + N * gone t]? = some r := ⟨_, List.getElem?_eq_getElem (by rw [hi.rl]; exact (List.getElem?_eq_some_iff.1 hb).1)⟩
  have hf := h.rt r (List.mem_of_getElem? hr)
  have := hi.nw0
  unfold Ag.size
  rw [h.bs, hp]
  rw [← h.bs]
  simp only [hb, hr, Option.map_some, Option.getD_some]
  rw [if_neg (by omega), fnow_body, kbody_len]
theorem FRun.sizes {szs : List Int} {N T : Nat} {gone : Nat → Nat} {by' : Nat → Int} {M : Ag} {o : Out} {u : Nat} (h : FRun szs N T gone by' M o) (hi : Inv M u) (hN : 0 < N) (hN4 : N ≤ 4) (hT : ∀ t, t < N → t + N * gone t < T) {t : Nat} (ht : t < N) : (M.sizes 0).getD t 0 = pickN (szs.getD (t + N * gone t) 0) 64 + 1 := by
  have hk : (kn.take N)[t]? = some (kn.getD t []) := by
    rw [List.getElem?_take_of_lt ht, List.getD_eq_getElem?_getD, List.getElem?_eq_getElem (show t < kn.length by show t < 4; omega)]
    rfl
  unfold Ag.sizes
  rw [List.getD_eq_getElem?_getD, List.getElem?_map, h.ns, hk]
  exact h.size hi hN hN4 ht (hT t ht)

/-- No failure is not too many. -/
theorem none_fail {p r : Nat} (h : p < 4) (h1 : 1 ≤ r) (h2 : r ≤ 8) : tooMany (quarter p) 0 (r : Int) = false := by
  have key : ((List.range 4).all fun p => (List.range 8).all fun r => !((FloatKind.f64.format.order ((FloatKind.f64.format.div (floatOfInt .f64 0) (floatOfInt .f64 ((r + 1 : Nat) : Int))).getD 0) (quarter p) == some .gt) || (FloatKind.f64.format.order ((FloatKind.f64.format.div (floatOfInt .f64 0) (floatOfInt .f64 ((r + 1 : Nat) : Int))).getD 0) (quarter p) == some .eq))) = true := by kernel_rfl
  have := List.all_eq_true.1 (List.all_eq_true.1 key p (by simpa using h)) (r - 1) (by simp; omega)
  have e : r - 1 + 1 = r := by omega
  unfold tooMany quot
  rw [e] at this
  simpa using this

/-- What stands behind a send. -/
structure FGone (szs : List Int) (N : Nat) (gone : Nat → Nat) (M M' : Ag) (o o' : Out) (w : Nat) (s : Sd) : Prop where
  lt : w < N
  tr : s.try' = o.sends + 1
  id : s.id = kid (w + N * gone w)
  body : s.body = kbody (pickN (szs.getD (w + N * gone w) 0) 64)
  ho : M'.os[0]? = some o'
  way : o'.way = ((w + N * gone w : Nat) : Int)
  sn : o'.sends = o.sends + 1
  turn : o'.turn = w
  br : o'.trip = o.trip ∧ o'.fl = o.fl
  os : ∃ o1, M'.os = M.os.set 0 o1
  same : M'.c = M.c ∧ M'.D = M.D ∧ M'.ns = M.ns ∧ M'.bs = M.bs ∧ M'.rt = M.rt

theorem FRun.goes {szs : List Int} {N T : Nat} {gone : Nat → Nat} {by' : Nat → Int} {M : Ag} {o : Out} {u : Nat} (h : FRun szs N T gone by' M o) (hi : Inv M u) (hu : u + 1 ≤ 10000000000000) (hN : 0 < N) (hN4 : N ≤ 4) (hT : ∀ t, t < N → t + N * gone t < T) :
    ∃ M' s o' w, M.ticked 0 0 = (M', [s]) ∧ FGone szs N gone M M' o o' w s ∧ Bal N M.quanta (fun i => if i = w then by' i + (pickN (szs.getD (w + N * gone w) 0) 64 + 1 : Nat) else by' i) (o'.turn, o'.cr) := by
  have hi' := hi.later (ms := 0) (by omega) (by omega)
  have h' : FRun szs N T gone by' (M.later 0) o := ⟨h.bs, h.ho, h.wy, h.ns, h.rt, h.bal, h.tr, h.fl⟩
  have hnl : M.ns.length = N := by rw [h.ns, List.length_take]; show min N 4 = N; omega
  have hso := hi'.sendOk hu
  obtain ⟨_, _, _, _, hrot, _⟩ := hi'.os 0 o h'.ho
  have hrot' : Rot N (o.turn, o.cr) := by have := hrot; rw [show (M.later 0).ns = M.ns from rfl, hnl] at this; exact this
  have hsz : ∀ t, t < N → ((M.later 0).sizes 0).getD t 0 = pickN (szs.getD (t + N * gone t) 0) 64 + 1 := fun t ht => h'.sizes hi' hN hN4 hT ht
  have hall : ((M.later 0).sizes 0).all (· == 0) = false := by
    refine List.all_eq_false.2 ⟨((M.later 0).sizes 0).getD 0 0, ?_, by rw [hsz 0 hN]; simp⟩
    have hl : 0 < ((M.later 0).sizes 0).length := by show 0 < (M.ns.map _).length; rw [List.length_map, hnl]; exact hN
    rw [List.getD_eq_getElem?_getD, List.getElem?_eq_getElem hl]
    exact List.getElem_mem hl
  have hq : ∀ i, i < N → 64 ≤ M.quanta.getD i 0 ∧ M.quanta.getD i 0 ≤ 1000 := fun i hi2 => hso.quanta_bd i (by rw [show (M.later 0).ns = M.ns from rfl, hnl]; exact hi2)
  have htk : M.ticked 0 0 = (M.later 0).sentTo 0 := by
    unfold Ag.ticked
    rw [timed_idle h'.wy]
    have hl : 0 < (M.later 0).os.length := (List.getElem?_eq_some_iff.1 h'.ho).1
    obtain ⟨k, hk⟩ : ∃ k, (M.later 0).os.length = k + 1 := ⟨_, (Nat.succ_pred_eq_of_pos hl).symm⟩
    rw [hk]
    exact sentOut_first h'.dst k
  have hcl : o.cr.length = N := hrot'.len
  obtain ⟨s1, hs1⟩ : ∃ s1, turnsR ((M.later 0).sizes 0) M.quanta N (o.turn, o.cr) = s1 := ⟨_, rfl⟩
  have hb1 := Bal.turns (hso.sizes_le 0) hq (fun i hi2 => by rw [hsz i hi2]; omega) N (o.turn, o.cr) hrot' h.bal
  have hr1 := turnsR_rot (hso.sizes_le 0) hq N (o.turn, o.cr) hrot'
  rw [hs1] at hb1 hr1
  have hw := hr1.turn
  have ep : o.picked ((M.later 0).sizes 0) (M.later 0).quanta = { o with turn := s1.1, cr := s1.2.set s1.1 (s1.2.getD s1.1 0 - ((M.later 0).sizes 0).getD s1.1 0) } := by
    unfold Out.picked
    simp only [hcl, show (M.later 0).quanta = M.quanta from rfl, hs1]
  obtain ⟨ps, hp⟩ := fnow_head (szs := szs) hN hN4 hw (hT _ hw)
  have hnm : (M.later 0).named 0 o = s1.1 + N * gone s1.1 := by
    unfold Ag.named
    rw [ep]
    show (pend M.bs (0 : Nat) (M.ns.getD s1.1 [])).headD 0 = _
    have e2 : M.ns.getD s1.1 [] = kn.getD s1.1 [] := by
      rw [h.ns, List.getD_eq_getElem?_getD, List.getElem?_take_of_lt hw, ← List.getD_eq_getElem?_getD]
    rw [e2, h.bs, hp]
    rfl
  have hat := h'.at (hT _ hw)
  have e3 := sentTo_eq h'.ho (h.wy 0 o h.ho) (fun hh => by rw [h.tr] at hh; exact absurd hh.1 (by simp)) hall
  have hl := (List.getElem?_eq_some_iff.1 h'.ho).1
  have hpay := hb1.pay hr1 (z := ((pickN (szs.getD (s1.1 + N * gone s1.1) 0) 64 + 1 : Nat) : Int)) (by omega)
  rw [hnm, ep] at e3
  refine ⟨_, _, { o with turn := s1.1, cr := s1.2.set s1.1 (s1.2.getD s1.1 0 - ((M.later 0).sizes 0).getD s1.1 0), sends := o.sends + 1, way := ((s1.1 + N * gone s1.1 : Nat) : Int), began := (M.later 0).now }, s1.1, htk.trans e3, ⟨hw, rfl, ?_, ?_, ?_, rfl, rfl, rfl, ⟨rfl, rfl⟩, ⟨_, rfl⟩, rfl, rfl, rfl, rfl, rfl⟩, ?_⟩
  · simp only [hat, Option.map_some, Option.getD_some]
    exact fnow_id _ _ _ _
  · simp only [hat, Option.map_some, Option.getD_some]
    exact fnow_body _ _ _ _
  · show ((M.later 0).os.set 0 _)[0]? = some _
    rw [List.getElem?_set_self hl]
  · simp only
    rw [hsz _ hw]
    exact hpay
end Go.Proofs.YtojpjaifhjigfaaGreatDoor

/- Fair: the good answer; and where it begins. -/
namespace Go.Proofs.YtojpjaifhjigfaaGreatDoor
open Go.RowKit Go.Maps

/-- One more of w's is acked. -/
def more (gone : Nat → Nat) (w : Nat) : Nat → Nat := fun i => if i = w then gone i + 1 else gone i

theorem fnow_set {szs : List Int} {N T : Nat} {gone : Nat → Nat} (hN : 0 < N) {w : Nat} (hw : w < N) :
    ((List.range T).map (fnow szs N gone)).set (w + N * gone w) ((fnow szs N gone (w + N * gone w)).ended 1 0) = (List.range T).map (fnow szs N (more gone w)) := by
  have hmod : (w + N * gone w) % N = w := by rw [Nat.add_mul_mod_self_left]; exact Nat.mod_eq_of_lt hw
  have hdiv : (w + N * gone w) / N = gone w := by rw [Nat.add_mul_div_left _ _ hN, Nat.div_eq_of_lt hw]; omega
  apply List.ext_getElem?
  intro i
  by_cases hiT : i < T
  · rw [show ((List.range T).map (fnow szs N (more gone w)))[i]? = some (fnow szs N (more gone w) i) by simp [hiT]]
    by_cases e : w + N * gone w = i
    · subst e
      rw [List.getElem?_set_self (by simpa using hiT)]
      unfold fnow more
      rw [hmod, hdiv, if_neg (by omega)]
      simp
    · rw [List.getElem?_set_ne e, show ((List.range T).map (fnow szs N gone))[i]? = some (fnow szs N gone i) by simp [hiT]]
      unfold fnow more
      by_cases em : i % N = w
      · have hne : i / N ≠ gone w := fun hh => e (by have := Nat.div_add_mod i N; rw [hh, em] at this; omega)
        rw [em]
        simp only [if_true]
        by_cases c : i / N < gone w
        · rw [if_pos c, if_pos (by omega)]
        · rw [if_neg c, if_neg (by omega)]
      · rw [if_neg em]
  · rw [List.getElem?_eq_none (by simp; omega), List.getElem?_eq_none (by simp; omega)]

theorem FGone.replied {szs : List Int} {N T : Nat} {gone : Nat → Nat} {by' by2 : Nat → Int} {M M' : Ag} {o o' : Out} {w u p : Nat} {s : Sd} (g : FGone szs N gone M M' o o' w s) (h : FRun szs N T gone by' M o) (hb : Bal N M.quanta by2 (o'.turn, o'.cr)) (hi : Inv M' u) (hu : u + 1 ≤ 10000000000000) (hN : 0 < N)
    (hp4 : p < 4) (hth : M.c.th = quarter p) (hwi : M.c.wi ≤ 8) (hT : w + N * gone w < T) : ∃ o2, FRun szs N T (more gone w) by2 (M'.replied 0 true 0) o2 ∧ o2.sends = o'.sends ∧ o2.turn = w ∧ (M'.replied 0 true 0).c = M.c ∧ (M'.replied 0 true 0).D = M.D := by
  obtain ⟨s1, s2, s3, s4, s5⟩ := g.same
  have hway : o'.way ≠ -1 := by rw [g.way]; omega
  obtain ⟨pp, b, r, hs, hst, hdst, hfl⟩ := hi.setOk (by omega) (Int.le_refl 0) g.ho hway
  have hpp : pp = w + N * gone w := by have := hs.way; rw [g.way] at this; omega
  subst hpp
  have hbe : b = fnow szs N gone (w + N * gone w) := by
    have h1 := hs.hb
    rw [s4, h.at hT] at h1
    exact (Option.some.inj h1).symm
  obtain ⟨k, hk, hk0, f, e⟩ := replied_eq hs true
  have hl := (List.getElem?_eq_some_iff.1 g.ho).1
  obtain ⟨a1, a2, a3, a4, _⟩ := hi.os 0 o' g.ho
  obtain ⟨_, k2, k3, k4, k5, _⟩ := heard_ok { o' with way := -1 } M'.c M'.now true a1 a2 a3 a4
  obtain ⟨g1, g2⟩ := g.br
  have hbr : ({ o' with way := -1 }.heard M'.c M'.now true).trip = false ∧ ({ o' with way := -1 }.heard M'.c M'.now true).fl = 0 := by
    have ht : o'.trip = false := g1.trans h.tr
    have hf : o'.fl = 0 := g2.trans h.fl
    have hn := none_fail hp4 (r := (o'.res + 1).toNat) (by omega) (by rw [s1] at a2; omega)
    rw [show (((o'.res + 1).toNat : Nat) : Int) = o'.res + 1 by omega] at hn
    unfold Out.heard Out.counted
    simp only [ht, hf, Bool.false_eq_true, if_false, if_true, s1, hth, hn, Bool.and_false]
    split
    · exact ⟨rfl, rfl⟩
    · exact ⟨rfl, rfl⟩
  rw [e, over_eq hs true]
  refine ⟨{ o' with way := -1 }.heard M'.c M'.now true, ⟨?_, ?_, fun d o1 ho1 => ?_, ?_, ?_, ?_, hbr.1, hbr.2⟩, k4, k2.trans g.turn, s1, s2⟩
  · show M'.bs.set (w + N * gone w) (b.ended 1 0) = _
    rw [s4, h.bs, hbe]
    exact fnow_set hN g.lt
  · show (M'.os.set 0 _)[0]? = some _
    rw [List.getElem?_set_self hl]
  · have ho2 : (M'.os.set 0 _)[d]? = some o1 := ho1
    by_cases e0 : d = 0
    · subst e0
      rw [List.getElem?_set_self hl] at ho2
      cases ho2
      exact k5
    · rw [List.getElem?_set_ne (fun e => e0 e.symm)] at ho2
      obtain ⟨o3, e3⟩ := g.os
      rw [e3, List.getElem?_set_ne (fun e => e0 e.symm)] at ho2
      exact h.wy d o1 ho2
  · show M'.ns = _
    rw [s3]; exact h.ns
  · intro x hx
    have hx2 : x ∈ M'.rt := hx
    rw [s5] at hx2
    exact h.rt x hx2
  · have eq : ({ M' with os := M'.os.set 0 ({ o' with way := -1 }.heard M'.c M'.now true), bs := M'.bs.set (w + N * gone w) (b.ended 1 0), log := M'.log ++ recB 43 [Ev.of k (w + N * gone w) f] } : Ag).quanta = M.quanta := by
      show M'.ns.map (qOf M'.D) = M.ns.map (qOf M.D)
      rw [s2, s3]
    have e5 : ({ o' with way := -1 }.heard M'.c M'.now true).turn = o'.turn := k2
    have e6 : ({ o' with way := -1 }.heard M'.c M'.now true).cr = o'.cr := k3
    rw [e5, e6]
    show Bal N (M'.ns.map (qOf M'.D)) by2 _
    rw [s2, s3]
    exact hb
end Go.Proofs.YtojpjaifhjigfaaGreatDoor

/- Fair: where it begins. -/
namespace Go.Proofs.YtojpjaifhjigfaaGreatDoor
open Go.RowKit Go.Maps

theorem sorted_eq {α : Type} {r : α → α → Prop} : ∀ {l l' : List α}, (∀ a ∈ l, ∀ b ∈ l, r a b → r b a → a = b) → l.Perm l' → l.Pairwise r → l'.Pairwise r → l = l'
  | [], l', _, p, _, _ => (List.nil_perm.1 p).symm ▸ rfl
  | a :: l, [], _, p, _, _ => by have := p.length_eq; simp at this
  | a :: l, b :: l', an, p, h, h' => by
    by_cases e : a = b
    · subst e
      have := sorted_eq (fun x hx y hy => an x (by simp [hx]) y (by simp [hy])) ((List.perm_cons a).1 p) (List.pairwise_cons.1 h).2 (List.pairwise_cons.1 h').2
      rw [this]
    · have ha : a ∈ b :: l' := p.mem_iff.1 (by simp)
      have hb : b ∈ a :: l := p.mem_iff.2 (by simp)
      have ha' : a ∈ l' := by rcases List.mem_cons.1 ha with h1 | h1; exact absurd h1 e; exact h1
      have hb' : b ∈ l := by rcases List.mem_cons.1 hb with h1 | h1; exact absurd h1.symm e; exact h1
      exact absurd (an a (by simp) b hb ((List.pairwise_cons.1 h).1 b hb') ((List.pairwise_cons.1 h').1 a ha')) e

theorem kn_sorted : kn.Pairwise (fun x y => x ≤ y) := by decide
theorem kn_anti : ∀ a ∈ kn, ∀ b ∈ kn, a ≤ b → b ≤ a → a = b := by decide
theorem names_eq (zs : List Int) {k : Nat} (h1 : 1 ≤ k) (h2 : k ≤ 4) {ns : List (List UInt8)} (hp : ns.Perm (strKeys (DT (madeT zs k)))) (hs : ns.Pairwise (fun x y => x ≤ y)) : ns = kn.take k := by
  rw [made_keys zs h1 h2] at hp
  refine sorted_eq (fun a ha b hb => ?_) hp hs (kn_sorted.sublist (List.take_sublist _ _))
  exact kn_anti a (List.mem_of_mem_take (hp.mem_iff.1 ha)) b (List.mem_of_mem_take (hp.mem_iff.1 hb))

theorem FSub.start {zs szs : List Int} {N T u : Nat} {M : Ag} (h : FSub zs szs N T M) (hi : Inv M u) (hu : u ≤ 10000000000000) (hN : 0 < N) (hN4 : N ≤ 4) (hns : M.ns = kn.take N) : ∃ o, FRun szs N T (fun _ => 0) (fun _ => 0) M o ∧ o.sends = 0 := by
  have hd : (madeC zs).d.toNat = pickN (zs.getD 0 0) 3 + 1 := by show ((1 + (pickN (zs.getD 0 0) 3 : Int))).toNat = _; omega
  have hnl : M.ns.length = N := by rw [hns, List.length_take]; show min N 4 = N; omega
  have hq := (hi.sendOk hu).quanta_bd 0 (by rw [hnl]; exact hN)
  have hall : ∀ (d : Nat) o', M.os[d]? = some o' → o' = { res := 0, fl := 0, trip := false, unt := 0, turn := 0, cr := List.replicate M.ns.length 0, sends := 0, way := -1, began := 0 } := fun d o' ho => by
    rw [h.os] at ho
    exact (List.mem_replicate.1 (List.mem_of_getElem? ho)).2
  have h0 : ∀ i, (List.replicate M.ns.length (0 : Int)).getD i 0 = 0 := fun i => by
    rw [List.getD_eq_getElem?_getD, List.getElem?_replicate]
    split <;> rfl
  refine ⟨{ res := 0, fl := 0, trip := false, unt := 0, turn := 0, cr := List.replicate M.ns.length 0, sends := 0, way := -1, began := 0 }, ⟨?_, ?_, fun d o' ho => by rw [hall d o' ho], hns, h.rt, ⟨⟨0, fun i _ => ?_⟩, ?_⟩, rfl, rfl⟩, rfl⟩
  · rw [h.bs]
    refine List.map_congr_left fun i _ => ?_
    unfold fnow
    rw [if_neg (Nat.not_lt_zero _)]
  · rw [h.os]
    show (List.replicate (madeC zs).d.toNat _)[0]? = some _
    rw [hd, List.replicate_succ]
    rfl
  · simp only
    rw [h0]
    unfold rho
    rw [if_neg (by omega)]
    omega
  · simp only
    rw [h0]
    omega
end Go.Proofs.YtojpjaifhjigfaaGreatDoor

/- The calls with the labels told, so that the caller's own rows are kept; Open of what was made. -/
namespace Go.Proofs.YtojpjaifhjigfaaGreatDoor
open Go.RowKit Go.Maps

/-- Where conduitkeep's agent lies; what was there ahead of the call has no label. -/
structure KL (w wr : World) (L : Labs) (g t : Nat) (M : Ag) : Prop where
  ag : AgentAt wr L 1 g M
  lo : ∀ k, k < w.heap.size → L k = none
  b : Below w.heap.size w wr
  inv : Inv M t
theorem not_none : ¬ ofP 1 none := fun ⟨q, e⟩ => by cases e
theorem KL.step {w wr w' : World} {L L' : Labs} {g t t' : Nat} {M M' : Ag} (h : KL w wr L g t M) (hA : AgentAt w' L' 1 g M') (hs : Step (ofP 1) L wr L' w') (hi : Inv M' t') : KL w w' L' g t' M' :=
  ⟨hA, fun k hk => (hs.lab k (Nat.lt_of_lt_of_le hk h.b.size)).trans (h.lo k hk), h.b.trans (hs.below h.b.size (fun k hk => by rw [h.lo k hk]; exact not_none)), hi⟩
theorem KL.below {w wr w' : World} {L : Labs} {g t : Nat} {M : Ag} (h : KL w wr L g t M) (hb : Below wr.heap.size wr w') : KL w w' L g t M :=
  ⟨h.ag.keep (Step.of_below (p := fun _ => False) hb) (fun _ h => h), h.lo, h.b.trans (hb.mono h.b.size), h.inv⟩
/-- A store into a row of the caller's own. -/
theorem KL.set {w wr : World} {L : Labs} {g t : Nat} {M : Ag} (h : KL w wr L g t M) {k : Nat} (hk : L k = none) (hw : w.heap.size ≤ k) (i : Nat) (v : Value) : KL w (wr.setCell ⟨k, i, none⟩ v) L g t M := by
  have s : Step (fun q => q = none) L wr L (wr.setCell ⟨k, i, none⟩ v) := Step.setCell _ _ _ _ hk
  exact ⟨h.ag.keep s (fun q => by simp), h.lo, h.b.setCell (by simpa using hw) _, h.inv⟩

theorem lsubmit {w wr : World} {L : Labs} {g t : Nat} {M : Ag} (A : Nat → Addr) (hS : Sents.Holds w 260 gl 11 A) (h : KL w wr L g t M) (ht : t ≤ 1000000) (b : Bat) (hl : b.ten.length ≤ maxLen) :
    Calls Tryz.prog 27 #[.pointer (some ⟨g, 0, none⟩), batVal b] wr fun e w' => e = .returned (errV A (M.refusal b)) ∧ ∃ L', KL w w' L' g (t + 1) (M.submitted b) ∧ Step (ofP 1) L wr L' w' := by
  refine (submit_inv A L 1 g t M b wr (hS.below h.b) h.ag h.inv (by omega) hl).mono ?_
  rintro e w' ⟨rfl, L', a1, a2⟩
  exact ⟨rfl, L', h.step a1 a2 (h.inv.submitted b), a2⟩
theorem ltick1 {w wr : World} {L : Labs} {g t : Nat} {M M' : Ag} {s : Sd} (h : KL w wr L g t M) (ht : t ≤ 1000000) {ms : Int} (h0 : 0 ≤ ms) (h1 : ms ≤ 60000) (he : M.ticked ms 0 = (M', [s])) {k0 : Nat} (hk0 : k0 < wr.heap.size) (hL0 : L k0 = none) :
    Calls Tryz.prog 30 #[.pointer (some ⟨g, 0, none⟩), .int .i64 ms, .int .i64 0] wr fun e w' => ∃ gr cap L', e = .returned (.tuple #[.slice (some ⟨gr, 0, none⟩) 1 cap, .nilIface]) ∧ (∀ j v, s.cells[j]? = some v → w'.cell? ⟨gr, j, none⟩ = some v) ∧ gr < w'.heap.size ∧ L' gr ≠ none ∧ KL w w' L' g (t + 1) M' ∧ Step (ofP 1) L wr L' w' := by
  refine (tick_inv L 1 g t M ms 0 wr h.ag h.inv (by omega) h0 h1 (Int.le_refl 0)).mono ?_
  rintro e w' ⟨v, L', l', rfl, hr, _, hfr, hA, hs⟩
  have hi := h.inv.ticked (ms := ms) (draw := 0) (by omega) h0 h1 (Int.le_refl 0)
  rw [he] at hr hA hi
  obtain ⟨a, cap, rfl, _⟩ := hr.shape
  obtain ⟨gr, rfl, h5, h6, h7, h8⟩ := hr.head (by simp)
  refine ⟨gr, cap, L', rfl, fun j v hv => h7 j v (by simpa using hv), h5, ?_, h.step hA hs hi, hs⟩
  rw [h6]
  exact fun e => hfr k0 hk0 (hL0.trans e.symm)
theorem lreply {w wr : World} {L : Labs} {g t : Nat} {M : Ag} {o : Out} (h : KL w wr L g t M) (ht : t ≤ 1000000) (ho : M.os[0]? = some o) (hw : o.way ≠ -1) (good : Bool) (tr : Int) (htr : tr = o.sends) :
    Calls Tryz.prog 31 #[.pointer (some ⟨g, 0, none⟩), .int .i64 0, .int .i64 tr, .bool good, .int .i64 0] wr fun e w' => e = .returned .nilIface ∧ ∃ L', KL w w' L' g (t + 1) (M.replied 0 good 0) ∧ Step (ofP 1) L wr L' w' := by
  subst htr
  refine (reply_inv L 1 g t 0 M o good 0 wr h.ag h.inv (by omega) (Int.le_refl 0) ho hw).mono ?_
  rintro e w' ⟨rfl, L', a1, a2⟩
  exact ⟨rfl, L', h.step a1 a2 (h.inv.replied (by omega) (Int.le_refl 0) ho hw good), a2⟩

/-- Open of what was made, with an empty log. -/
theorem lopen (zs szs : List Int) (b n N : Nat) (hN : N = 1 + pickN (zs.getD 9 0) 4) (w W : World) (hn : n ≤ 4) (hM : OM W b n (DT (madeT zs N))) (hB : Below w.heap.size w W) :
    Calls Tryz.prog 26 #[(madeC zs).val (some b), .string ⟨#[]⟩] W fun e w' => ∃ g M L, e = .returned (.tuple #[.pointer (some ⟨g, 0, none⟩), .nilIface]) ∧ FSub zs szs N 0 M ∧ M.ns = kn.take N ∧ KL w w' L g 0 M ∧ Below W.heap.size W w' ∧ (∀ k, k < W.heap.size → L k = none) ∧ ∀ k, w'.heap.size ≤ k → L k = none := by
  have h9 := pickN_lt (zs.getD 9 0) (n := 4) (by omega)
  have hg := made_good zs
  rw [← hN] at hg
  refine (open_good (fun _ => none) 1 (madeC zs) (some b) _ W (Or.inr ⟨b, n, rfl, hM, by unfold big; omega⟩) hg).mono ?_
  rintro e w' ⟨g, L', ns, rfl, h1, h2, h3, h4, _, h6, h7⟩
  have hns := names_eq zs (by omega) (by omega) h2 h3
  have hi := inv_new hM hg h2
  refine ⟨g, _, L', rfl, ⟨rfl, rfl, fun r hr => by simp [Ag.new] at hr, rfl, rfl, rfl, fun t ht => ?_⟩, hns, ⟨h1, fun k hk => h6 k (Nat.lt_of_lt_of_le hk hB.size), hB.trans (h4.mono hB.size), hi⟩, h4, h6, h7⟩
  refine (hi.hs _).1 ?_
  show kn.getD t [] ∈ ns
  rw [hns, List.getD_eq_getElem?_getD, List.getElem?_eq_getElem (show t < kn.length by show t < 4; omega)]
  exact List.mem_take_iff_getElem.2 ⟨t, by rw [Nat.lt_min]; exact ⟨ht, by show t < 4; omega⟩, rfl⟩
end Go.Proofs.YtojpjaifhjigfaaGreatDoor

/- Fair: rows of numbers of the caller's own, and sums. -/
namespace Go.Proofs.YtojpjaifhjigfaaGreatDoor
open Go.RowKit Go.Maps

/-- The caller's own: the configuration, its map, the names. -/
structure FAt (zs : List Int) (N : Nat) (w wr : World) (L : Labs) (gc b gn : Nat) : Prop where
  c : BlkAt wr L none gc ((madeC zs).cells (some b)) 25
  m : ∃ n, n ≤ 4 ∧ OM wr b n (DT (madeT zs N)) ∧ L b = none
  n : BlkAt wr L none gn #[encStr [97], encStr [98], encStr [99], encStr [100]] 9
  gc : w.heap.size ≤ gc
  gn : w.heap.size ≤ gn
theorem FAt.keep {zs : List Int} {N : Nat} {w wr w' : World} {L L' : Labs} {gc b gn : Nat} (h : FAt zs N w wr L gc b gn) {p : Lab → Prop} (s : Step p L wr L' w') (hp : ¬ p none) : FAt zs N w w' L' gc b gn := by
  obtain ⟨n, hn, ⟨es, cl, k1, k2⟩, hl⟩ := h.m
  have hbl := (Array.getElem?_eq_some_iff.1 k1).1
  exact ⟨h.c.keep s hp, ⟨n, hn, ⟨es, cl, (s.block b hbl (by rw [hl]; exact hp)).trans k1, k2⟩, (s.lab b hbl).trans hl⟩, h.n.keep s hp, h.gc, h.gn⟩

/-- What is left of a division. -/
theorem run_rem_nat {P : Program} (W : World) (t : TypeId) (a b : Nat) (hb : 0 < b) : (binOp .rem t (.int .i64 (a : Int)) (.int .i64 (b : Int))).run P W = .ok (.int .i64 ((a % b : Nat) : Int)) W := by
  have h2 : Int.tmod (a : Int) (b : Int) = ((a % b : Nat) : Int) := rfl
  simp [binOp, Op.intDiv, h2]
  omega
/-- Whom the send was of, as far as one has looked. -/
def whoV (wh j : Nat) : Int := if wh < j then wh else -1
theorem whoV_zero (wh : Nat) : whoV wh 0 = -1 := if_neg (Nat.not_lt_zero _)
theorem whoV_all {wh N : Nat} (h : wh < N) : whoV wh N = wh := if_pos h
theorem whoV_hit (wh : Nat) : whoV wh (wh + 1) = wh := if_pos (Nat.lt_succ_self _)
theorem whoV_miss {wh j : Nat} (h : ¬ j = wh) : whoV wh (j + 1) = whoV wh j := by
  unfold whoV
  by_cases l : wh < j
  · rw [if_pos l, if_pos (by omega)]
  · rw [if_neg l, if_neg (by omega)]

theorem below_drewN {B n : Nat} {a w : World} (h : Below B a w) : Below B a (w.drewN n) := ⟨h.os, h.tape, h.output, h.size, h.block⟩

/-- A row of numbers. -/
def nums (f : Nat → Int) (N : Nat) : Array Value := ((List.range N).map fun t => Value.int .i64 (f t)).toArray
theorem nums_at {f : Nat → Int} {N t : Nat} (h : t < N) : (nums f N)[t]? = some (.int .i64 (f t)) := by simp [nums, h]
theorem nums_set (f f' : Nat → Int) (N t : Nat) (v : Int) (h : ∀ i, i < N → f' i = if i = t then v else f i) : (nums f N).setIfInBounds t (.int .i64 v) = nums f' N := by
  apply Array.ext'
  rw [Array.toList_setIfInBounds]
  apply List.ext_getElem?
  intro i
  unfold nums
  simp only
  by_cases hi : i < N
  · rw [show ((List.range N).map fun t => Value.int .i64 (f' t))[i]? = some (.int .i64 (f' i)) by simp [hi], h i hi]
    by_cases e : t = i
    · subst e
      rw [List.getElem?_set_self (by simpa using hi), if_pos rfl]
    · rw [List.getElem?_set_ne e, if_neg (fun e' => e e'.symm)]
      simp [hi]
  · rw [List.getElem?_eq_none (by simp; omega), List.getElem?_eq_none (by simp; omega)]
theorem nums_zero (N : Nat) : madeCells #[Value.int .i64 0] N = nums (fun _ => 0) N := by
  apply Array.ext'
  rw [toList_madeCells_one]
  unfold nums
  simp only
  apply List.ext_getElem?
  intro i
  by_cases hi : i < N
  · simp [hi]
  · rw [List.getElem?_eq_none (by simp; omega), List.getElem?_eq_none (by simp; omega)]

/-- How many have gone of the first n. -/
def gsum (f : Nat → Nat) : Nat → Nat
  | 0 => 0
  | n + 1 => gsum f n + f n
theorem gsum_more (f : Nat → Nat) (w : Nat) : ∀ n, gsum (more f w) n = gsum f n + if w < n then 1 else 0
  | 0 => rfl
  | n + 1 => by
    unfold gsum
    rw [gsum_more f w n]
    unfold more
    by_cases e : n = w
    · subst e
      rw [if_pos rfl, if_neg (by omega), if_pos (by omega)]
      omega
    · rw [if_neg e]
      by_cases l : w < n
      · rw [if_pos l, if_pos (by omega)]; omega
      · rw [if_neg l, if_neg (by omega)]; omega
theorem gsum_le (f : Nat → Nat) (m : Nat) : ∀ n, (∀ t, t < n → f t ≤ m) → gsum f n ≤ n * m
  | 0, _ => by simp [gsum]
  | n + 1, h => by
    have := gsum_le f m n (fun t ht => h t (by omega))
    have h2 := h n (by omega)
    rw [Nat.succ_mul]
    show gsum f n + f n ≤ _
    omega
theorem gsum_zero : ∀ n, gsum (fun _ => 0) n = 0
  | 0 => rfl
  | n + 1 => by show gsum (fun _ => 0) n + 0 = 0; rw [gsum_zero n]
/-- Two next ones of different tenants have different numbers. -/
theorem next_inj {N t w a b : Nat} (ht : t < N) (hw : w < N) (h : t + N * a = w + N * b) : t = w := by
  have h1 : (t + N * a) % N = t := by rw [Nat.add_mul_mod_self_left]; exact Nat.mod_eq_of_lt ht
  have h2 : (w + N * b) % N = w := by rw [Nat.add_mul_mod_self_left]; exact Nat.mod_eq_of_lt hw
  rw [h] at h1
  omega
/-- The next one is there, while not each of them has gone. -/
theorem next_lt {N E t a : Nat} (ht : t < N) (ha : a < E) : t + N * a < E * N := by
  have h := Nat.mul_le_mul_left N (show a + 1 ≤ E from ha)
  rw [Nat.mul_add, Nat.mul_one] at h
  rw [Nat.mul_comm E N]
  omega

/-- The labels beyond the heap's end are taken away. -/
theorem KL.keep {w wr w' : World} {L L' : Labs} {g t : Nat} {M : Ag} (h : KL w wr L g t M) {p : Lab → Prop} (s : Step p L wr L' w') (hp : ∀ q, ¬ p (some (1, q))) (hn : ¬ p none) : KL w w' L' g t M :=
  ⟨h.ag.keep s hp, fun k hk => (s.lab k (Nat.lt_of_lt_of_le hk h.b.size)).trans (h.lo k hk), h.b.trans (s.below h.b.size (fun k hk => by rw [h.lo k hk]; exact hn)), h.inv⟩
theorem FAt.set {zs : List Int} {N : Nat} {w wr : World} {L : Labs} {gc b gn : Nat} (h : FAt zs N w wr L gc b gn) {k : Nat} (h1 : k ≠ gc) (h2 : k ≠ b) (h3 : k ≠ gn) (i : Nat) (v : Value) : FAt zs N w (wr.setCell ⟨k, i, none⟩ v) L gc b gn := by
  obtain ⟨n, hn, ho, hl⟩ := h.m
  exact ⟨⟨h.c.1.other _ _ (fun e => h1 (by simpa using e.symm)), h.c.2⟩, ⟨n, hn, ownsMap_of_block ho (Below.heap_setCell _ _ _ _ (fun e => h2 (by simpa using e.symm))), hl⟩, ⟨h.n.1.other _ _ (fun e => h3 (by simpa using e.symm)), h.n.2⟩, h.gc, h.gn⟩
theorem FAt.name {zs : List Int} {N : Nat} {w wr : World} {L : Labs} {gc b gn : Nat} (h : FAt zs N w wr L gc b gn) {r : Nat} (hr : r < 4) : wr.cell? ⟨gn, r, none⟩ = some (encStr (kn.getD r [])) := by
  rw [h.n.1.cell r]
  rcases (by omega : r = 0 ∨ r = 1 ∨ r = 2 ∨ r = 3) with rfl | rfl | rfl | rfl <;> rfl
theorem FAt.quanta {zs : List Int} {N : Nat} {w wr : World} {L : Labs} {gc b gn : Nat} (h : FAt zs N w wr L gc b gn) : wr.cell? ⟨gc, 1, none⟩ = some (.map (some b)) := h.c.1.cell 1
theorem FAt.below {zs : List Int} {N : Nat} {w wr w' : World} {L : Labs} {gc b gn : Nat} (h : FAt zs N w wr L gc b gn) (hb : Below wr.heap.size wr w') : FAt zs N w w' L gc b gn := h.keep (Step.of_below (p := fun _ => False) hb) (fun h => h)
theorem submitted_ns (M : Ag) (b : Bat) : (M.submitted b).ns = M.ns := by
  unfold Ag.submitted
  split <;> rfl
/-- What a look-up of a tenant's quantum finds. -/
theorem fq_look {w : World} {b n : Nat} {D : DataW Unit} (h : OM w b n D) {x : List UInt8} (hx : Maps.has D (.string x) = true) (w' : World) (n' : Nat) (h' : OM w' b n' D) : (Instr.lookup 22 (.map (some b)) (encStr x) false).run Tryz.prog w' = .ok (.int .i64 (qOf D x)) w' := by
  obtain ⟨c, h1, h2⟩ := look_at h hx
  rw [qOf_at h1]
  exact h2 w' n' h'

/-- All that Fair has at hand while batches go. -/
structure FSt (zs : List Int) (N : Nat) (w wr : World) (L : Labs) (g gc b gn gg t : Nat) (gone : Nat → Nat) (by' : Nat → Int) (M : Ag) : Prop where
  k : KL w wr L g t M
  f : FAt zs N w wr L gc b gn
  r : BlkAt wr L none gg (nums (fun j => (gone j : Int)) N) 3
  s : BlkAt wr L none (gg + 1) (nums by' N) 3
  D : M.D = DT (madeT zs N)
  c : M.c = madeC zs
  le : gc < gg ∧ b < gg ∧ gn < gg ∧ w.heap.size ≤ gg
theorem FSt.step {zs : List Int} {N : Nat} {w wr w' : World} {L L' : Labs} {g gc b gn gg t t' : Nat} {gone : Nat → Nat} {by' : Nat → Int} {M M' : Ag} (h : FSt zs N w wr L g gc b gn gg t gone by' M) (hK : KL w w' L' g t' M') (s : Step (ofP 1) L wr L' w') (hD : M'.D = M.D) (hc : M'.c = M.c) : FSt zs N w w' L' g gc b gn gg t' gone by' M' :=
  ⟨hK, h.f.keep s not_none, h.r.keep s not_none, h.s.keep s not_none, hD.trans h.D, hc.trans h.c, h.le⟩
theorem FSt.below {zs : List Int} {N : Nat} {w wr w' : World} {L : Labs} {g gc b gn gg t : Nat} {gone : Nat → Nat} {by' : Nat → Int} {M : Ag} (h : FSt zs N w wr L g gc b gn gg t gone by' M) (hb : Below wr.heap.size wr w') : FSt zs N w w' L g gc b gn gg t gone by' M :=
  ⟨h.k.below hb, h.f.below hb, h.r.keep (Step.of_below (p := fun _ => False) hb) (fun h => h), h.s.keep (Step.of_below (p := fun _ => False) hb) (fun h => h), h.D, h.c, h.le⟩
theorem FSt.setR {zs : List Int} {N : Nat} {w wr : World} {L : Labs} {g gc b gn gg t : Nat} {gone : Nat → Nat} {by' : Nat → Int} {M : Ag} (h : FSt zs N w wr L g gc b gn gg t gone by' M) (j : Nat) (v : Int) (hv : v = gone j + 1) : FSt zs N w (wr.setCell ⟨gg, j, none⟩ (.int .i64 v)) L g gc b gn gg t (more gone j) by' M := by
  obtain ⟨l1, l2, l3, l4⟩ := h.le
  refine ⟨h.k.set h.r.2 l4 _ _, h.f.set (by omega) (by omega) (by omega) _ _, ⟨?_, h.r.2⟩, ⟨h.s.1.other _ _ (by simp), h.s.2⟩, h.D, h.c, h.le⟩
  rw [← nums_set (fun j => (gone j : Int)) (fun i => (more gone j i : Int)) N j v (fun i _ => ?_)]
  · exact h.r.1.set j _
  · unfold more
    by_cases e : i = j
    · subst e
      rw [if_pos rfl, if_pos rfl, hv]
      omega
    · rw [if_neg e, if_neg e]
theorem FSt.setS {zs : List Int} {N : Nat} {w wr : World} {L : Labs} {g gc b gn gg t : Nat} {gone : Nat → Nat} {by' : Nat → Int} {M : Ag} (h : FSt zs N w wr L g gc b gn gg t gone by' M) (by2 : Nat → Int) (j : Nat) (v : Int) (hv : ∀ i, by2 i = if i = j then v else by' i) : FSt zs N w (wr.setCell ⟨gg + 1, j, none⟩ (.int .i64 v)) L g gc b gn gg t gone by2 M := by
  obtain ⟨l1, l2, l3, l4⟩ := h.le
  refine ⟨h.k.set h.s.2 (by omega) _ _, h.f.set (by omega) (by omega) (by omega) _ _, ⟨h.r.1.other _ _ (by simp), h.r.2⟩, ⟨?_, h.s.2⟩, h.D, h.c, h.le⟩
  rw [← nums_set by' by2 N j v (fun i _ => hv i)]
  exact h.s.1.set j _
theorem FSt.gone {zs : List Int} {N : Nat} {w wr : World} {L : Labs} {g gc b gn gg t : Nat} {gone : Nat → Nat} {by' : Nat → Int} {M : Ag} (h : FSt zs N w wr L g gc b gn gg t gone by' M) {j : Nat} (hj : j < N) : wr.cell? ⟨gg, j, none⟩ = some (.int .i64 (gone j)) := (h.r.1.cell j).trans (nums_at hj)
theorem FSt.sent {zs : List Int} {N : Nat} {w wr : World} {L : Labs} {g gc b gn gg t : Nat} {gone : Nat → Nat} {by' : Nat → Int} {M : Ag} (h : FSt zs N w wr L g gc b gn gg t gone by' M) {j : Nat} (hj : j < N) : wr.cell? ⟨gg + 1, j, none⟩ = some (.int .i64 (by' j)) := (h.s.1.cell j).trans (nums_at hj)
/-- The rows are made. -/
theorem FSt.start {zs : List Int} {N : Nat} {w wr : World} {L : Labs} {g gc b gn t : Nat} {M : Ag} (hK : KL w wr L g t M) (hF : FAt zs N w wr L gc b gn) (hD : M.D = DT (madeT zs N)) (hc : M.c = madeC zs) :
    ∃ L', FSt zs N w ((wr.alloc (.cells (madeCells #[.int .i64 0] N) 3)).alloc (.cells (madeCells #[.int .i64 0] N) 3)) L' g gc b gn wr.heap.size t (fun _ => 0) (fun _ => 0) M := by
  have hb : Below wr.heap.size wr ((wr.alloc (.cells (madeCells #[.int .i64 0] N) 3)).alloc (.cells (madeCells #[.int .i64 0] N) 3)) := ((Below.refl _ _).alloc (Nat.le_refl _) _).alloc (by simp) _
  have s : Step (fun _ => False) L wr (clip L wr.heap.size) ((wr.alloc (.cells (madeCells #[.int .i64 0] N) 3)).alloc (.cells (madeCells #[.int .i64 0] N) 3)) := (Step.clipped L wr).trans (Step.of_below hb)
  obtain ⟨n, _, ho, _⟩ := hF.m
  refine ⟨clip L wr.heap.size, hK.keep s (fun _ h => h) (fun h => h), hF.keep s (fun h => h), ⟨?_, clip_none L (Nat.le_refl _)⟩, ⟨?_, clip_none L (by omega)⟩, hD, hc, hF.c.1.lt, ho.lt, hF.n.1.lt, hK.b.size⟩
  · have := nums_zero N
    show Blk _ _ (nums (fun _ => 0) N) _
    rw [← this]
    exact (Blk.new wr _ _).alloc _
  · rw [← nums_zero N]
    exact Blk.made (by simp) _ _
/-- The quanta as the map has them. -/
theorem FSt.q {zs : List Int} {N : Nat} {M : Ag} (hns : M.ns = kn.take N) (hD : M.D = DT (madeT zs N)) (hN4 : N ≤ 4) {j : Nat} (hj : j < N) : M.quanta.getD j 0 = qOf (DT (madeT zs N)) (kn.getD j []) := by
  have hk : (kn.take N)[j]? = some (kn.getD j []) := by
    rw [List.getElem?_take_of_lt hj, List.getD_eq_getElem?_getD, List.getElem?_eq_getElem (show j < kn.length by show j < 4; omega)]
    rfl
  unfold Ag.quanta
  rw [List.getD_eq_getElem?_getD, List.getElem?_map, hns, hk, hD]
  rfl
theorem made_has (zs : List Int) {N : Nat} (h1 : 1 ≤ N) (h4 : N ≤ 4) {w : World} {b n : Nat} (h : OM w b n (DT (madeT zs N))) {j : Nat} (hj : j < N) : Maps.has (DT (madeT zs N)) (.string (kn.getD j [])) = true := by
  rw [← mem_strKeys h, made_keys zs h1 h4, List.getD_eq_getElem?_getD, List.getElem?_eq_getElem (show j < kn.length by show j < 4; omega)]
  exact List.mem_take_iff_getElem.2 ⟨j, by rw [Nat.lt_min]; exact ⟨hj, by show j < 4; omega⟩, rfl⟩
end Go.Proofs.YtojpjaifhjigfaaGreatDoor
