/- (*pair).counts: does a map tell how many wait? -/
import Derived.Test.YtojpjaifhjigfaaGreatDoorRefAsk
namespace Go.Proofs.YtojpjaifhjigfaaGreatDoor
open Go.RowKit Go.Maps

/-- The pairs' cells. -/
abbrev prCells (gx gy : Nat) (c : Cfg) (m : Option Nat) (sv lg : Value) : Array Value :=
  #[.pointer (some ⟨gx, 0, none⟩), .pointer (some ⟨gy, 0, none⟩), .int .i64 c.d, .map m, .int .i64 c.q, .int .i64 c.at', .int .i64 c.ba, .int .i64 c.ca, .int .i64 c.ti, .int .i64 c.wi, .int .i64 c.le, .float .f64 c.th, .int .i64 c.op, sv, lg]

def posB (bs : List Bat) (x : List UInt8) : Bool := decide (0 < cntP bs x)
def cntN (bs : List Bat) (ns : List (List UInt8)) : Nat := (ns.filter (posB bs)).length
theorem cntN_step {bs : List Bat} {ns : List (List UInt8)} {k : Nat} {x : List UInt8} (h : ns[k]? = some x) : cntN bs (ns.take (k + 1)) = cntN bs (ns.take k) + (if posB bs x then 1 else 0) := by
  have hk : k < ns.length := (List.getElem?_eq_some_iff.1 h).1
  have hb : ns[k] = x := (List.getElem?_eq_some_iff.1 h).2
  unfold cntN
  rw [List.take_succ_eq_append_getElem hk, List.filter_append, List.length_append, hb]
  congr 1
  simp only [List.filter_cons, List.filter_nil]
  split <;> simp

/-- A map of counts has as many entries as there are names with something. -/
theorem size_counts {w : World} {b n : Nat} {D : DataW Unit} {bs : List Bat} {ns : List (List UInt8)} (h : OM w b n D) (hC : CountsAre D (cntP bs)) (hns : ns.Nodup) (hk : ∀ x, 0 < cntP bs x → x ∈ ns) (hl : ∀ x ∈ ns, x.length ≤ maxLen) : Maps.size D = cntN bs ns := by
  rw [← size_strKeys h]
  unfold cntN
  refine List.Perm.length_eq ((List.perm_ext_iff_of_nodup ?_ (hns.filter _)).2 fun x => ?_)
  · obtain ⟨es, rfl, hkk⟩ := h.keysOf
    obtain ⟨es', e', hpw, _⟩ := h.entries lawS
    cases e'
    show (es.map fun p => strOf p.1).Nodup
    rw [List.nodup_iff_pairwise_ne, List.pairwise_map]
    refine (List.Pairwise.imp_of_mem (fun {p q} hp hq hne he => hne ?_) hpw)
    obtain ⟨v, hv⟩ := hkk p hp
    obtain ⟨y, _, hy, _⟩ := Maps.keyOf_str Tryz.underlying9 hv
    obtain ⟨v', hv'⟩ := hkk q hq
    obtain ⟨y', _, hy', _⟩ := Maps.keyOf_str Tryz.underlying9 hv'
    rw [hy, hy'] at he ⊢
    simpa [strOf] using he
  · rw [mem_strKeys h, List.mem_filter]
    constructor
    · intro hx
      have hxl : x.length ≤ maxLen := strKeys_le h Tryz.underlying9 x ((mem_strKeys h x).2 hx)
      rw [hC.has hxl] at hx
      have hx' : 0 < cntP bs x := by simpa using hx
      exact ⟨hk x hx', by simpa [posB] using hx'⟩
    · rintro ⟨hx, hp⟩
      rw [hC.has (hl x hx)]
      exact hp

set_option maxRecDepth 100000 in
set_option maxHeartbeats 1000000 in
theorem counts_any (L : Labs) (who gp gy b nb : Nat) (R : Rf) (D : DataW Unit) (w : World) (hp : w.cell? ⟨gp, 1, none⟩ = some (.pointer (some ⟨gy, 0, none⟩))) (h : RefAt w L who gy R) (hb : R.rs.length ≤ 120) (hnl : R.ns.length ≤ 120) (hO : OM w b nb D) (hC : CountsAre D (cntP R.bs)) (hl : ∀ x ∈ R.ns, x.length ≤ maxLen) (hsz : Maps.size D = cntN R.bs R.ns) :
    Calls Tryz.prog 81 #[.pointer (some ⟨gp, 0, none⟩), .map (some b)] w fun e w' => e = .returned (.bool true) ∧ w' = w := by
  have HW := hide (fun t x hx => refWaits_any L who gy R t x w h hb hx)
  obtain ⟨nv, qv, bv, dv, la, lk, h⟩ := h
  obtain ⟨ta, tc, rfl, _⟩ := h.nm.shape
  have c11 : w.cell? ⟨gy, 11, none⟩ = some (.slice ta R.ns.length tc) := h.blk.1.cell 11
  have HT := hide h.nm
  have HC := hide hC
  have Hl := hide hl
  have hbl : R.bs.length ≤ 120 := by simpa [Rf.bs] using hb
  have hln := fun ty => hO.len Tryz.underlying22 ty
  have Hs := hide hsz
  rw [hsz] at hln
  generalize hn : R.ns.length = n at *
  have Hn := hide hn
  clear h hn hC hl hsz
  go_enter Tryz.func81, Tryz.ntmps81
  go_wp2_with fail
  go_loop [5, 6, 7] (fun q s i => ∃ k c : Nat, k ≤ n ∧ c ≤ k ∧ q = .int .i64 c ∧ s = .bool true ∧ i = .int .i64 k ∧ Hid (c = cntN R.bs (R.ns.take k))) (fun _ _ i => n - (intOf i).toNat)
  case atStart => exact ⟨0, 0, Nat.zero_le _, Nat.le_refl _, rfl, rfl, rfl, by simp [Hid, cntN]⟩
  case round =>
    obtain ⟨k, c, hk, hck, rfl, rfl, rfl, Hc⟩ := hrel
    by_cases hlt : k < n
    · have hltI : (k : Int) < (n : Int) := by omega
      obtain ⟨gt, rfl, hgt, _, hct, _⟩ := HT.out.head (by omega)
      obtain ⟨x, hx⟩ : ∃ x, R.ns[k]? = some x := ⟨_, List.getElem?_eq_getElem (by rw [Hn.out]; exact hlt)⟩
      have e2 : w.cell? ⟨gt, k, none⟩ = some (encStr x) := hct _ _ (strs_get hx)
      have hxl := Hl.out x (List.mem_of_getElem? hx)
      have hkS := keyStr hxl
      have HWx := hide (HW.out k x hx)
      have Hst := hide (cntN_step (bs := R.bs) hx)
      have hc1 : cntP R.bs x ≤ 120 := Nat.le_trans (cntP_le _ _) hbl
      clear hct hx
      go_wp2_with fail
      refine HWx.out.mono ?_
      rintro e w' ⟨rfl, rfl⟩
      by_cases h0 : 0 < cntP R.bs x
      · have hhas : Maps.has D (.string x) = true := by rw [HC.out.has hxl]; simpa using h0
        have h0I : (0 : Int) < (cntP R.bs x : Int) := by omega
        have Hst1 : Hid (cntN R.bs (R.ns.take (k + 1)) = cntN R.bs (R.ns.take k) + 1) := by have := Hst.out; rw [show posB R.bs x = true by simpa [posB] using h0] at this; simp only [Hid]; simpa using this
        go_wp2_with (first
          | (at_lookup; refine wpList_lookup_own_ok_int _ rfl _ _ 22 rfl 9 3 .i64 lawS Tryz.underlying22 Tryz.underlying3 (zeroInt _) b _ _ rfl hO _ _ rfl hkS ?_; intro q hq hwq; obtain rfl := HC.out.look hxl hq; rw [hhas])
          | fail)
        go_round
        case rel => exact ⟨k + 1, c + 1, by omega, by omega, by go_num, rfl, by go_num, by show c + 1 = _; rw [Hst1.out, Hc.out]⟩
        case measure => simp [intOf]; omega
      · have hhas : Maps.has D (.string x) = false := by rw [HC.out.has hxl]; simpa using h0
        have hz : cntP R.bs x = 0 := by omega
        have Hst1 : Hid (cntN R.bs (R.ns.take (k + 1)) = cntN R.bs (R.ns.take k)) := by have := Hst.out; rw [show posB R.bs x = false by simpa [posB] using h0] at this; simp only [Hid]; simpa using this
        go_wp2_with (first
          | (at_lookup; refine wpList_lookup_own_ok_int _ rfl _ _ 22 rfl 9 3 .i64 lawS Tryz.underlying22 Tryz.underlying3 (zeroInt _) b _ _ rfl hO _ _ rfl hkS ?_; intro q hq hwq; obtain rfl := HC.out.look hxl hq; rw [hhas])
          | fail)
        go_round
        case rel => exact ⟨k + 1, c, by omega, by omega, rfl, rfl, by go_num, by show c = _; rw [Hst1.out, Hc.out]⟩
        case measure => simp [intOf]; omega
    · have Hc' : Hid (c = cntN R.bs R.ns) := by have := Hc.out; rw [List.take_of_length_le (by rw [Hn.out]; omega)] at this; exact this
      have hcI : ((cntN R.bs R.ns : Nat) : Int) = (c : Int) := by rw [Hc'.out]
      go_wp2_with fail
      go_ret
      exact ⟨rfl, rfl⟩
end Go.Proofs.YtojpjaifhjigfaaGreatDoor
