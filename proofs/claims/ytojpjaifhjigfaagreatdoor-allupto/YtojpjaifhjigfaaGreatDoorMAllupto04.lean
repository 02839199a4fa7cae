/- Steps of the proof (several texts in one): Waiting, Mark, Book, BookMap, BookWhole. -/
import Derived.Test.YtojpjaifhjigfaaGreatDoorMAllupto03
import Derived.ArgAppend
import Derived.Deep.DeepCutAuto

/- Waiting: how many pending batches each tenant has, in a new map. -/
namespace Go.Proofs.YtojpjaifhjigfaaGreatDoor
open Go.RowKit Go.Maps

theorem invLaneK (key : Value) (kl : Lit) (hk : keyOf Tryz.prog 202 key = some kl) : ∃ x : Int × List UInt8, key = .agg #[.int .i64 x.1, encStr x.2] := by
  obtain ⟨d, t, h, _⟩ := lane_inv hk
  exact ⟨(d, t), h⟩
theorem invLaneV (v : Value) (y : DataW Value × List MemPlace) (hv : Rq v = some y) : ∃ c : Option Addr × Nat × Nat, v = .slice c.1 c.2.1 c.2.2 := by
  unfold Rq at hv
  split at hv
  · exact ⟨(_, _, _), rfl⟩
  · cases hv

theorem om_made {V : World} {n : Nat} (h : V.heap.size = n) : OM (V.alloc (.map #[] 0)) n 0 (.map []) := h ▸ World.ownsMap_made (H := Unit) V Tryz.prog 9 (plainElem Tryz.prog 3)

/-- A new map of counts. -/
def NewCounts (w w' : World) (f : List UInt8 → Nat) (e : Ending) : Prop := ∃ b n D, e = .returned (.map (some b)) ∧ w.heap.size ≤ b ∧ OM w' b n D ∧ n ≤ 120 ∧ CountsAre D f ∧ Below w.heap.size w w'

set_option maxRecDepth 100000 in
set_option maxHeartbeats 1000000 in
theorem pWaiting_any (L : Labs) (who g : Nat) (M : Ag) (w : World) (h : AgentAt w L who g M) (hb : M.bs.length ≤ 120) :
    Calls Tryz.prog 77 #[.pointer (some ⟨g, 0, none⟩)] w fun e w' => NewCounts w w' (waits M.bs) e := by
  obtain ⟨bq, bm, cn, tv, dv, nv, rv, ov, h⟩ := h
  have c1 : w.cell? ⟨g, 1, none⟩ = some (.map (some bq)) := h.blk.1.cell 1
  have hgl := h.blk.1.lt
  obtain ⟨D, ⟨hq, _⟩, hsz, h4, hhas, hrow⟩ := h.qs
  have hql := hq.lt
  have hmm := @run_makeMap Tryz.prog
  have HQ := hide hq
  have H4 := hide h4
  have HH := hide hhas
  have HR := hide hrow
  clear h hq h4 hhas hrow
  go_enter Tryz.func77, Tryz.ntmps77
  go_wp2_with (first
    | (at_range; refine wpList_range_own _ rfl _ 132 rfl 202 51 lawLane Tryz.underlying132 _ bq _ _ rfl (HQ.out.alloc _) ?_; intro w0 hrg0 hg0 hs0)
    | fail)
  try go_frame
  have hw0B : Below w.heap.size w w0 := ((Below.refl _ _).alloc (Nat.le_refl _) _).grown hg0 (by simp) (fun j hj => by cases hj)
  have hw0M : OM w0 w.heap.size 0 (.map []) := (om_made rfl).kept hg0 (by simp)
  try simp only [World.size_alloc] at hrg0 ⊢
  have HB := hide hw0B
  have HM := hide hw0M
  clear hw0B hw0M hg0 hs0
  generalize hN : w.heap.size = N at *
  have HN := hide hN
  clear hN
  go_loopw [5] (fun _ wr => ∃ (left : Lit → Bool) (cnt : Nat) (Dc : DataW Unit), wr.ranges Tryz.prog 202 Rq bq (N + 1) (Maps.size D) D left cnt ∧ cnt ≤ Maps.size D ∧ OM wr N (Maps.size D - cnt) Dc ∧ CountsAre Dc (cntLeft M.bs left) ∧ Below N w wr) (fun _ wr => wr.rangeLeft bq (N + 1))
  case atStart => exact ⟨_, _, .map [], hrg0, Nat.le_refl _, HM.out.mono (Nat.zero_le _), countsAre_start HH.out, HB.out⟩
  case round =>
    obtain ⟨left, cnt, Dc, hrg, hcs, hout, hC, hnx⟩ := hrel
    have Hout := hide hout
    have HC := hide hC
    have Hnx := hide hnx
    clear hout hC hnx
    go_wp2_with (first
      | (at_next; refine wpList_next_ranges _ rfl _ rfl 202 lawLane Rq (fun x : Int × List UInt8 => .agg #[.int .i64 x.1, encStr x.2]) (fun c : Option Addr × Nat × Nat => .slice c.1 c.2.1 c.2.2) invLaneK invLaneV bq (N + 1) (Maps.size D) _ _ _ rfl hrg ?_ ?_)
      | fail)
    · intro hc0 hl0
      have HE : Hid (CountsAre Dc (waits M.bs)) := HC.out.congr (fun t _ => cntLeft_end hl0 t)
      clear hl0
      go_wp2_with fail
      go_ret
      exact ⟨N, _, Dc, rfl, by rw [HN.out]; exact Nat.le_refl _, Hout.out, by omega, HE.out, by rw [HN.out]; exact Hnx.out⟩
    · intro x1 x2 va vn vc kl yd yp w2 cnt2 hkey hlk hv hat hrg2 hlt hg2 hs2 hen
      obtain ⟨d, t, ex, rfl, hok⟩ := lane_inv hkey
      obtain ⟨rfl, rfl⟩ : x1 = d ∧ x2 = t := by simpa [laneVal, encStr] using ex
      have hy : yd = .held (.slice va vn vc) := by
        have : some (DataW.held (.slice va vn vc), ([] : List MemPlace)) = some (yd, yp) := hv
        exact (congrArg Prod.fst (Option.some.inj this)).symm
      have hhd : hdr D x1 x2 = .slice va vn vc := hdr_of_at (fun z => by rw [hat z, hy])
      have hDk : Maps.has D (laneKey x1 x2) = true := has_true_of_atKey hat
      obtain ⟨hd0, hd4⟩ := H4.out x1 x2 hok hDk
      have hvn : vn = (pend M.bs x1 x2).length := by
        have := HR.out x1 x2 hok
        rw [hhd] at this
        obtain ⟨a', c', e', _⟩ := this.shape
        simpa using (by simpa using e' : va = a' ∧ vn = (pend M.bs x1 x2).length ∧ vc = c').2.1
      have hple := pend_le M.bs x1 x2
      have hc4 := cntLeft_le M.bs left x2
      have Hst : Hid (∀ t' : List UInt8, t'.length ≤ maxLen → cntLeft M.bs (fun z => left z && !z.sameKey (laneKey x1 x2)) t' = if t' = x2 then cntLeft M.bs left x2 + vn else cntLeft M.bs left t') := by
        rw [hvn]
        exact fun t' ht' => cntLeft_step hok hd0 hd4 ht' hlk
      have hkS := keyStr hok.2
      have Hok := hide hok
      have hout1 : OM w2 N (Maps.size D - cnt) Dc := Hout.out.kept hg2 (by simp)
      have HB2 : Hid (Below N w w2) := Hnx.out.grown hg2 (by have := Hnx.out.size; have := HN.out; omega) (fun j hj => by cases hj; omega)
      have HMe : Hid (cnt2 < wr.rangeLeft bq (N + 1)) := by rw [hrg.left_eq]; exact hlt
      have Hrg2 := hide hrg2
      have hNw2 : N < w2.heap.size := hout1.lt
      have hvn120 : vn ≤ 120 := by omega
      clear hkey hlk hv hat ex hrg2 hg2 hs2 hok hy hhd hDk hvn hple
      by_cases h0 : 0 < vn
      · have h0I : (0 : Int) < (vn : Int) := by omega
        go_wp2_with (first
          | (at_lookup; refine wpList_lookup_own_int _ rfl _ _ 22 rfl 9 3 .i64 lawS Tryz.underlying22 Tryz.underlying3 (zeroInt _) N _ _ rfl (hout1.alloc _) _ _ rfl hkS ?_; intro q hq hwq; obtain rfl : q = cntLeft M.bs left x2 := HC.out.look Hok.out.2 hq)
          | (at_mapUpdate; refine wpList_mapUpdate_own _ rfl _ _ _ 22 rfl 9 3 lawS Tryz.underlying22 _ N _ _ rfl (hout1.alloc _) (by unfold maxLen; omega) _ _ _ rfl rfl hkS _ [] (plainElem_int Tryz.underlying3 (WalkArith.wf_i64 (by omega))) ?_; intro w3 hout3 hg3; go_frame)
          | fail)
        have hrg3 := (Hrg2.out.alloc _).kept hg3 (by simp; omega) (by simp)
        go_roundw
        case rel => exact ⟨_, cnt2, _, hrg3, by omega, hout3.mono (by omega), (HC.out.put hout1.isMap (n := cntLeft M.bs left x2 + vn) (by omega)).congr (fun t' ht' => by rw [Hst.out t' ht']), (HB2.out.alloc (by omega) _).grown hg3 (by simp; omega) (fun j hj => by cases hj; omega)⟩
        case measure => rw [hrg3.left_eq]; exact HMe.out
      · have h0I : ¬ (0 : Int) < (vn : Int) := by omega
        go_wp2_with fail
        go_roundw
        case rel => exact ⟨_, cnt2, Dc, Hrg2.out.alloc _, by omega, (hout1.mono (by omega)).alloc _, HC.out.congr (fun t' ht' => by rw [Hst.out t' ht']; split <;> simp_all), HB2.out.alloc (by omega) _⟩
        case measure => rw [(Hrg2.out.alloc _).left_eq]; exact HMe.out

set_option maxHeartbeats 400000 in
theorem waiting_any (L : Labs) (who g : Nat) (M : Ag) (w : World) (h : AgentAt w L who g M) (hb : M.bs.length ≤ 120) :
    Calls Tryz.prog 36 #[.pointer (some ⟨g, 0, none⟩)] w fun e w' => NewCounts w w' (waits M.bs) e := by
  have H := hide (pWaiting_any L who g M w h hb)
  clear h hb
  go_enter Tryz.func36, Tryz.ntmps36
  go_wp2_with fail
  refine H.out.mono ?_
  rintro e w' ⟨b, n, D, rfl, h1⟩
  have H1 := hide h1
  clear h1
  go_wp2_with fail
  go_ret
  exact ⟨b, n, D, rfl, H1.out⟩
end Go.Proofs.YtojpjaifhjigfaaGreatDoor

/- conduitlaw.mark: what the owner of a list writes into it. -/
namespace Go.Proofs.YtojpjaifhjigfaaGreatDoor
open Go.RowKit Go.Maps

/-- The letters of a mark, with enough fuel. -/
def mkF : Nat → Nat → List UInt8 → List UInt8
  | 0, _, s => s
  | f + 1, n, s => if n = 0 then s else mkF f (n / 26) (s ++ [UInt8.ofNat (65 + n % 26)])
def mkBase : List UInt8 := [116, 104, 101, 32, 99, 97, 108, 108, 101, 114, 39, 115, 32]
def mkB (n : Nat) : List UInt8 := mkF n n mkBase

theorem mkF_zero (f : Nat) (s : List UInt8) : mkF f 0 s = s := by cases f <;> simp [mkF]
theorem mkF_fuel : ∀ (f g n : Nat) (s : List UInt8), n ≤ f → n ≤ g → mkF f n s = mkF g n s := by
  intro f
  induction f with
  | zero => intro g n s h1 h2; have : n = 0 := by omega
            subst this; rw [mkF_zero, mkF_zero]
  | succ f ih =>
    intro g n s h1 h2
    cases g with
    | zero => have : n = 0 := by omega
              subst this; rw [mkF_zero, mkF_zero]
    | succ g =>
      simp only [mkF]
      split
      · rfl
      · exact ih g (n / 26) _ (by omega) (by omega)
theorem mkF_step (n : Nat) (s : List UInt8) (h : 0 < n) : mkF n n s = mkF (n / 26) (n / 26) (s ++ [UInt8.ofNat (65 + n % 26)]) := by
  obtain ⟨f, rfl⟩ : ∃ f, n = f + 1 := ⟨n - 1, by omega⟩
  simp only [mkF]
  rw [if_neg (by omega)]
  exact mkF_fuel _ _ _ _ (by omega) (Nat.le_refl _)

set_option maxRecDepth 100000 in
set_option maxHeartbeats 400000 in
theorem mark_any (n : Nat) (w : World) (hn : (n : Int) ≤ 8000000) : Calls Tryz.prog 55 #[.int .i64 n] w fun e w' => e = .returned (encStr (mkB n)) ∧ Below w.heap.size w w' := by
  go_enter Tryz.func55, Tryz.ntmps55
  go_wp2_with fail
  go_loopw [0, 3] (fun a b wr => ∃ (k : Nat) (s : List UInt8), a = .int .i64 k ∧ b = encStr s ∧ k ≤ n ∧ s.length + k ≤ 13 + n ∧ Hid (mkF k k s = mkB n) ∧ Below w.heap.size w wr) (fun a _ _ => (intOf a).toNat)
  case atStart => exact ⟨n, mkBase, rfl, rfl, Nat.le_refl _, by simp [mkBase], rfl, Below.refl _ _⟩
  case round =>
    obtain ⟨k, s, rfl, rfl, hk, hl, HF, hnx⟩ := hrel
    have Hnx := hide hnx
    clear hnx
    by_cases h0 : 0 < k
    · have h0I : (0 : Int) < (k : Int) := by omega
      have hcv : (convert 156 9 (.slice (some ⟨wr.heap.size, 0, none⟩) 1 1)).run Tryz.prog (wr.alloc (.cells #[.int .u8 (65 + (k : Int) % 26)] 5)) = .ok (.string ⟨[UInt8.ofNat (65 + k % 26)].toArray⟩) (wr.alloc (.cells #[.int .u8 (65 + (k : Int) % 26)] 5)) :=
        run_convert_bytes_back _ 156 9 5 ⟨wr.heap.size, 0, none⟩ 1 [UInt8.ofNat (65 + k % 26)] Tryz.underlying156 Tryz.underlying5 Tryz.underlying9 (fun j hj => by
          have e : j = 0 := by simpa using hj
          subst e
          rw [show ((⟨wr.heap.size, 0, none⟩ : Addr).add 0) = ⟨wr.heap.size, 0, none⟩ from rfl, World.cell?_alloc_new]
          have e2 : ((UInt8.ofNat (65 + k % 26)).toNat : Int) = 65 + (k : Int) % 26 := by
            rw [UInt8.toNat_ofNat']; omega
          simp only [List.getElem_cons_zero]
          rw [e2]
          rfl)
      have had := fun W => run_string_add_lists (P := Tryz.prog) W s [UInt8.ofNat (65 + k % 26)] (by omega) (by simp)
      go_wp2_with fail
      go_roundw
      case rel => exact ⟨k / 26, s ++ [UInt8.ofNat (65 + k % 26)], by go_num, by simp [encStr, ByteArray.mk_append_mk], by omega, by simp; omega, by rw [← mkF_step k s h0]; exact HF, Hnx.out.alloc Hnx.out.size _⟩
      case measure => simp [intOf]; omega
    · have e : k = 0 := by omega
      subst e
      go_wp2_with fail
      go_ret
      exact ⟨by have := HF.out; simp only [mkF] at this; rw [← this]; rfl, Hnx.out⟩
end Go.Proofs.YtojpjaifhjigfaaGreatDoor

/- The caller's book: what came out, written full by its owner; keepTexts, keepMap. -/
namespace Go.Proofs.YtojpjaifhjigfaaGreatDoor
open Go.RowKit Go.Maps

theorem infoTexts : (Tryz.prog.info? 85).map (fun i => (i.zero, i.size, i.bytes)) = some (some (.slice none 0 0), 1, 24) := by kernel_rfl
theorem infoMapT : (Tryz.prog.info? 22).map (fun i => (i.zero, i.size, i.bytes)) = some (some (.map none), 1, 8) := by kernel_rfl

/-- The labels of what the caller keeps: 0: a list of texts; 1: the list of those; 2: the world; 3: the list of maps; 4: a map. -/
abbrev bl (k n : Nat) : Lab := some (0, .ot k n)
/-- The texts that came out: n lists, each with the mark of its number. -/
def TextsAt (w : World) (L : Labs) (v : Value) (n : Nat) : Prop :=
  ∃ ls, RowAt w L (bl 1 0) 85 1 v n ls ∧ ∀ (i : Nat) (u : Value), ls[i]? = some u → ∃ len, RowAt w L (bl 0 (i / 4)) 9 1 u len (List.replicate len (encStr (mkB (i / 4))))
/-- What stands in a map that came out. -/
def callers : List UInt8 := [116, 104, 101, 32, 99, 97, 108, 108, 101, 114, 39, 115]
def oneMap (i : Nat) : DataW Unit := .map [(.string callers, .lit (.int .i64 (-1000 - i)))]
/-- The maps that came out. -/
def MapsAt (w : World) (L : Labs) (v : Value) (n : Nat) : Prop :=
  ∃ ls, RowAt w L (bl 3 0) 22 1 v n ls ∧ ∀ (i : Nat) (u : Value), ls[i]? = some u → ∃ b, u = .map (some b) ∧ OMapAt w L (bl 4 i) Tryz.prog 9 (plainElem Tryz.prog 3) b 1 (oneMap i)

theorem TextsAt.keep {w w' : World} {L L' : Labs} {v : Value} {n : Nat} (h : TextsAt w L v n) {p : Lab → Prop} (s : Step p L w L' w') (h1 : ¬ p (bl 1 0)) (h0 : ∀ i, i < n → ¬ p (bl 0 (i / 4))) : TextsAt w' L' v n := by
  obtain ⟨ls, q1, q2⟩ := h
  refine ⟨ls, q1.keep s h1, fun i u hu => ?_⟩
  obtain ⟨len, q3⟩ := q2 i u hu
  have hi : i < n := by
    have := (List.getElem?_eq_some_iff.1 hu).1
    have e := q1.1.1
    omega
  exact ⟨len, q3.keep s (h0 i hi)⟩
theorem MapsAt.keep {w w' : World} {L L' : Labs} {v : Value} {n : Nat} (h : MapsAt w L v n) {p : Lab → Prop} (s : Step p L w L' w') (h1 : ¬ p (bl 3 0)) (h0 : ∀ i, i < n → ¬ p (bl 4 i)) : MapsAt w' L' v n := by
  obtain ⟨ls, q1, q2⟩ := h
  refine ⟨ls, q1.keep s h1, fun i u hu => ?_⟩
  obtain ⟨b, q3, q4⟩ := q2 i u hu
  have hi : i < n := by
    have := (List.getElem?_eq_some_iff.1 hu).1
    have e := q1.1.1
    omega
  exact ⟨b, q3, q4.keep s (h0 i hi)⟩

/-- What keepTexts may turn: the list that is handed in, the list of lists, the world. -/
def ktP (k : Nat) : Lab → Prop := fun l => l = bl 0 k ∨ l = bl 1 0 ∨ l = bl 2 0

/-- A new row of texts, all the same. -/
theorem rowAt_new {w w' : World} {L : Labs} {l : Lab} {v : Value} {n : Nat} {xs : List Value} (hown : w'.ownsRow w.heap.size 9 1 v n xs) (hn : 0 < n) : ∃ g cap, v = .slice (some ⟨g, 0, none⟩) n cap ∧ w.heap.size ≤ g ∧ RowAt w' (lay L g l) l 9 1 v n xs := by
  obtain ⟨g, cap, rfl, h1, h2⟩ := hown.form hn
  refine ⟨g, cap, rfl, h1, ⟨hown.1, ?_⟩, fun q hq => ?_⟩
  · rcases hown.2 with ⟨h, _⟩ | ⟨q, c, cur, q1, q2, q3⟩
    · cases h
    · exact Or.inr ⟨q, c, cur, q1, Nat.zero_le _, q3⟩
  · obtain rfl : g = q := by simpa [Value.ownBlock] using hq
    exact lay_same _ _ _

theorem row_add {w : World} {base : Nat} {e : TypeId} {g n cap : Nat} {xs : List Value} (h : w.ownsRow base e 1 (.slice (some ⟨g, 0, none⟩) n cap) n xs) {b : Addr} (hb : some (⟨g, 0, none⟩ : Addr) = some b) {j : Nat} {u : Value} (hu : xs[j]? = some u) : w.cell? (b.add j) = some u := by
  cases hb
  exact h.cells (by simp [Value.ownBlock]) j u hu
theorem rowAt_new' {w w' : World} {o : Obj} {L : Labs} {l : Lab} {v : Value} {n : Nat} {xs : List Value} (hown : w'.ownsRow (w.alloc o).heap.size 9 1 v n xs) (hg : (w.alloc o).grownBy w' none) (hn : 0 < n) : ∃ g cap, v = .slice (some ⟨g, 0, none⟩) n cap ∧ w.heap.size < g ∧ RowAt w' (lay L g l) l 9 1 v n xs ∧ Below w.heap.size w w' := by
  obtain ⟨g, cap, rfl, h1, h2⟩ := rowAt_new (L := L) (l := l) hown hn
  refine ⟨g, cap, rfl, by simp at h1; omega, h2, ((Below.refl _ _).alloc (Nat.le_refl _) o).grown hg (by simp) (fun j hj => by cases hj)⟩

set_option maxRecDepth 100000 in
set_option maxHeartbeats 2000000 in
theorem keepTexts_any (L : Labs) (gw n gl len : Nat) (tv : Value) (xs : List Value) (cur : Array Value) (w : World) (hK : BlkAt w L (bl 2 0) gw cur 38) (hc : cur[23]? = some tv) (hT : TextsAt w L tv n) (h4 : n % 4 = 0) (hn : n ≤ 8000000) (hlen : len ≤ 120)
    (hl : RowAt w L (bl 0 (n / 4)) 9 1 (.slice (some ⟨gl, 0, none⟩) len len) len xs) :
    Calls Tryz.prog 80 #[.pointer (some ⟨gw, 23, none⟩), .slice (some ⟨gl, 0, none⟩) len len] w fun e w' => e = .returned (.tuple #[]) ∧ ∃ L' tv', BlkAt w' L' (bl 2 0) gw (cur.setIfInBounds 23 tv') 38 ∧ TextsAt w' L' tv' (n + 4) ∧ Step (ktP (n / 4)) L w L' w' := by
  obtain ⟨ls, hR, hls⟩ := hT
  obtain ⟨ta, tk, rfl, _⟩ := hR.shape
  have a23 : w.cell? ⟨gw, 23, none⟩ = some (.slice ta n tk) := (hK.1.cell 23).trans hc
  have hgw := hK.1.lt
  obtain ⟨i0, hi, hz0, hz1, hz2⟩ := info_parts infoStr
  have HK := hide hK
  have HR := hide hR
  have HL := hide hls
  have HC := hide hc
  have HB := hide hl
  clear hK hR hls hc hl
  go_enter Tryz.func80, Tryz.ntmps80
  go_wp2_with fail
  rw [show ((n : Int) / 4) = ((n / 4 : Nat) : Int) from by omega]
  refine (mark_any (n / 4) _ (by omega)).mono ?_
  rintro e w1 ⟨rfl, hb1⟩
  generalize hm : mkB (n / 4) = m
  have Hm := hide hm
  have HS1 : Hid (Step (fun l => l = bl 0 (n / 4)) L w L w1) := Step.of_below hb1
  have HB1 : Hid (RowAt w1 L (bl 0 (n / 4)) 9 1 (.slice (some ⟨gl, 0, none⟩) len len) len xs) := HB.out.keep (Step.of_below (p := fun _ => False) hb1) (fun h => h)
  have hxl : xs.length = len := by have := HB.out.1.1; omega
  clear hm hb1 a23
  go_wp2_with fail
  go_loopw [5] (fun i wr => ∃ (k : Nat) (ys : List Value), k ≤ len ∧ i = .int .i64 k ∧ RowAt wr L (bl 0 (n / 4)) 9 1 (.slice (some ⟨gl, 0, none⟩) len len) len ys ∧ ys.take k = List.replicate k (encStr m) ∧ Step (fun l => l = bl 0 (n / 4)) L w L wr) (fun i _ => len - (intOf i).toNat)
  case atStart => exact ⟨0, xs, Nat.zero_le _, rfl, HB1.out, rfl, HS1.out⟩
  case round =>
    obtain ⟨k, ys, hk, rfl, hr, hy, hst⟩ := hrel
    have Hr := hide hr
    have Hy := hide hy
    have Hst := hide hst
    clear hr hy hst
    by_cases hlt : k < len
    · have hltI : (k : Int) < (len : Int) := by omega
      have hyl : ys.length = len := by have := Hr.out.1.1; omega
      obtain ⟨g', e', hg', hlab, hcell, hfz⟩ := Hr.out.head (by omega)
      obtain rfl : gl = g' := by simpa using e'
      have ck := hcell k _ (List.getElem?_eq_getElem (by omega : k < ys.length))
      have fk := hfz k
      have Hlab := hide hlab
      clear hcell hfz hlab e'
      go_wp2_with fail
      go_roundw
      case rel =>
        refine ⟨k + 1, ys.set k (encStr m), by omega, by go_num, Hr.out.set k _, ?_, Hst.out.trans (Step.setCell L wr ⟨gl, k, none⟩ _ Hlab.out)⟩
        rw [List.take_succ_eq_append_getElem (by simp; omega), List.take_set_of_le (Nat.le_refl _), Hy.out]
        simp [List.replicate_succ']
      case measure => simp [intOf]; omega
    · have ek : k = len := by omega
      subst ek
      have hyl : ys.length = k := by have := Hr.out.1.1; omega
      have hys : ys = List.replicate k (encStr m) := by rw [← Hy.out, List.take_of_length_le (by omega)]
      subst hys
      have HR0 : Hid (RowAt wr L (bl 0 (n / 4)) 9 1 (.slice (some ⟨gl, 0, none⟩) k k) k (List.replicate k (encStr m))) := Hr.out
      clear Hr Hy HB1 HB
      go_upto_region 6 with (first
        | (at_builtin; refine wpList_append_grows _ rfl _ _ 85 rfl 9 i0 (.string ⟨#[]⟩) 1 16 Tryz.underlying85 hi hz0 hz1 hz2 rfl (by decide) (some ⟨gl, 0, none⟩) k k (List.replicate k (encStr m)) rfl (fun e => by cases e) (by simp) (fun b hb j u hu => row_add (HR0.out.1.alloc _) hb hu) ⟨wr.heap.size, 0, none⟩ 1 1 [encStr m] rfl (by simp) (World.news_of_block (cs := #[encStr m]) (t := 9) (fr := (0, 0)) (heap_alloc_new wr _)) (by simp [Value.oneCell', encStr]) (by omega) (by unfold maxLen; omega) (by omega) ?_; intro v1 w10 ho hgr; obtain ⟨g1, c1, rfl, hgb1, hro, hbe⟩ := rowAt_new' (L := L) (l := bl 0 (n / 4)) ho hgr (by omega); have Hro1 := hide hro; have Hbe1 := hide hbe; clear ho hgr hro hbe)
        | fail)
      have HR1 : Hid (RowAt w10 L (bl 0 (n / 4)) 9 1 (.slice (some ⟨gl, 0, none⟩) k k) k (List.replicate k (encStr m))) := HR0.out.keep (Step.of_below (p := fun _ => False) Hbe1.out) (fun h => h)
      go_upto_region 7 with (first
        | (at_builtin; refine wpList_append_grows _ rfl _ _ 85 rfl 9 i0 (.string ⟨#[]⟩) 1 16 Tryz.underlying85 hi hz0 hz1 hz2 rfl (by decide) (some ⟨gl, 0, none⟩) k k (List.replicate k (encStr m)) rfl (fun e => by cases e) (by simp) (fun b hb j u hu => row_add (HR1.out.1.alloc _) hb hu) ⟨w10.heap.size, 0, none⟩ 2 2 [encStr m, encStr m] rfl (by simp) (World.news_of_block (cs := #[encStr m, encStr m]) (t := 9) (fr := (0, 0)) (heap_alloc_new w10 _)) (by simp [Value.oneCell', encStr]) (by omega) (by unfold maxLen; omega) (by omega) ?_; intro v2 w20 ho hgr; obtain ⟨g2, c2, rfl, hgb2, hro, hbe⟩ := rowAt_new' (L := L) (l := bl 0 (n / 4)) ho hgr (by omega); have Hro2 := hide hro; have Hbe2 := hide hbe; clear ho hgr hro hbe)
        | fail)
      have HR2 : Hid (RowAt w20 L (bl 0 (n / 4)) 9 1 (.slice (some ⟨gl, 0, none⟩) k k) k (List.replicate k (encStr m))) := HR1.out.keep (Step.of_below (p := fun _ => False) Hbe2.out) (fun h => h)
      go_upto_region 8 with (first
        | (at_builtin; refine wpList_append_grows _ rfl _ _ 85 rfl 9 i0 (.string ⟨#[]⟩) 1 16 Tryz.underlying85 hi hz0 hz1 hz2 rfl (by decide) (some ⟨gl, 0, none⟩) k k (List.replicate k (encStr m)) rfl (fun e => by cases e) (by simp) (fun b hb j u hu => row_add (HR2.out.1.alloc _) hb hu) ⟨w20.heap.size, 0, none⟩ 3 3 [encStr m, encStr m, encStr m] rfl (by simp) (World.news_of_block (cs := #[encStr m, encStr m, encStr m]) (t := 9) (fr := (0, 0)) (heap_alloc_new w20 _)) (by simp [Value.oneCell', encStr]) (by omega) (by unfold maxLen; omega) (by omega) ?_; intro v3 w30 ho hgr; obtain ⟨g3, c3, rfl, hgb3, hro, hbe⟩ := rowAt_new' (L := L) (l := bl 0 (n / 4)) ho hgr (by omega); have Hro3 := hide hro; have Hbe3 := hide hbe; clear ho hgr hro hbe)
        | fail)
      have hs1 : wr.heap.size ≤ w10.heap.size := Hbe1.out.size
      have hs2 : w10.heap.size ≤ w20.heap.size := Hbe2.out.size
      have hs3 : w20.heap.size ≤ w30.heap.size := Hbe3.out.size
      have hs0 : w.heap.size ≤ wr.heap.size := Hst.out.size
      have HB30 : Hid (Below wr.heap.size wr w30) := Hbe1.out.trans ((Hbe2.out.mono hs1).trans (Hbe3.out.mono (by omega)))
      obtain ⟨L1, HL1⟩ : ∃ L1, Hid (L1 = lay (lay (lay L g1 (bl 0 (n / 4))) g2 (bl 0 (n / 4))) g3 (bl 0 (n / 4))) := ⟨_, rfl⟩
      have HLa : Hid (∀ q, q < wr.heap.size → L1 q = L q) := fun q hq => by
        rw [HL1.out, lay_other _ _ (by omega), lay_other _ _ (by omega), lay_other _ _ (by omega)]
      have HS0 : Hid (Step (fun l => l = bl 0 (n / 4)) L w L1 w30) := Hst.out.trans (Step.of_below' HB30.out HLa.out)
      have hk30 : BlkAt w30 L1 (bl 2 0) gw cur 38 := HK.out.keep HS0.out (by simp [bl])
      have hr30 : RowAt w30 L1 (bl 1 0) 85 1 (.slice ta n tk) n ls := HR.out.keep HS0.out (by simp [bl])
      have HQ0 : Hid (RowAt w30 L1 (bl 0 (n / 4)) 9 1 (.slice (some ⟨gl, 0, none⟩) k k) k (List.replicate k (encStr m))) := HR0.out.keep (Step.of_below' (p := fun _ => False) HB30.out HLa.out) (fun h => h)
      have HQ1 : Hid (RowAt w30 L1 (bl 0 (n / 4)) 9 1 (.slice (some ⟨g1, 0, none⟩) (k + 1) c1) (k + 1) (List.replicate k (encStr m) ++ [encStr m])) :=
        Hro1.out.keep (Step.of_below' (p := fun _ => False) (Hbe2.out.trans (Hbe3.out.mono hs2)) (fun q hq => by rw [HL1.out, lay_other _ _ (by omega), lay_other _ _ (by omega)])) (fun h => h)
      have HQ2 : Hid (RowAt w30 L1 (bl 0 (n / 4)) 9 1 (.slice (some ⟨g2, 0, none⟩) (k + 2) c2) (k + 2) (List.replicate k (encStr m) ++ [encStr m, encStr m])) := by
        have := Hro2.out.keep (L' := lay (lay L g2 (bl 0 (n / 4))) g3 (bl 0 (n / 4))) (Step.of_below' (p := fun _ => False) Hbe3.out (fun q hq => lay_other _ _ (by omega))) (fun h => h)
        refine ⟨this.1, fun q hq => ?_⟩
        obtain rfl : g2 = q := by simpa [Value.ownBlock] using hq
        have h2 : g2 < w20.heap.size := (Hro2.out.1.lt g2 (by simp [Value.ownBlock])).2
        rw [HL1.out, lay_other _ _ (by omega), lay_same]
      have HQ3 : Hid (RowAt w30 L1 (bl 0 (n / 4)) 9 1 (.slice (some ⟨g3, 0, none⟩) (k + 3) c3) (k + 3) (List.replicate k (encStr m) ++ [encStr m, encStr m, encStr m])) :=
        ⟨Hro3.out.1, fun q hq => by obtain rfl : g3 = q := by simpa [Value.ownBlock] using hq
                                    rw [HL1.out, lay_same]⟩
      have HKW := hide hk30
      have HRW := hide hr30
      have a23 : w30.cell? ⟨gw, 23, none⟩ = some (.slice ta n tk) := (hk30.1.cell 23).trans HC.out
      have hgw30 := hk30.1.lt
      obtain ⟨i2, hi2, ho0, ho1, ho2⟩ := info_parts infoTexts
      clear hk30 hr30 HR0 HR1 HR2 Hro1 Hro2 Hro3
      go_wp2_with (first
        | (at_builtin; refine wpList_append_lies _ rfl _ _ 32 rfl 0 85 i2 (.slice none 0 0) 1 24 Tryz.underlying32 hi2 ho0 ho1 ho2 rfl (by decide) _ _ _ rfl (HRW.out.1.alloc _) ⟨w30.heap.size, 0, none⟩ 4 4 [.slice (some ⟨gl, 0, none⟩) k k, .slice (some ⟨g1, 0, none⟩) (k + 1) c1, .slice (some ⟨g2, 0, none⟩) (k + 2) c2, .slice (some ⟨g3, 0, none⟩) (k + 3) c3] rfl rfl (World.news_of_block (cs := #[.slice (some ⟨gl, 0, none⟩) k k, .slice (some ⟨g1, 0, none⟩) (k + 1) c1, .slice (some ⟨g2, 0, none⟩) (k + 2) c2, .slice (some ⟨g3, 0, none⟩) (k + 3) c3]) (t := 85) (fr := (0, 0)) (heap_alloc_new w30 _)) (by simp [Value.oneCell']) (by decide) (by unfold maxLen; omega) (by omega) (Nat.zero_le _) (w30.heap.size + 1) (by simp) ?_; intro gg cap w9 hown9 hg9 hat9 hlt9; have hK9 := Blk.grown (HKW.out.1.alloc _) hg9 (fun e => by have := HRW.out.2 gw e.symm; rw [HKW.out.2] at this; simp [bl] at this); have c23 := (hK9.cell 23).trans HC.out; have d23 := hK9.frozen 23; have HK9 := hide hK9; have HO9 := hide hown9; have HG9 := hide hg9; have HAt9 := hide hat9; clear hK9 hown9 hg9 hat9)
        | fail)
      go_end0
      have hat : (Value.slice ta n tk).ownBlock = some gg ∨ w30.heap.size + 1 ≤ gg := HAt9.out.imp id (fun e => by omega)
      obtain ⟨hrow, hlab⟩ := RowAt.appended (w0 := w30.alloc (.cells #[.slice (some ⟨gl, 0, none⟩) k k, .slice (some ⟨g1, 0, none⟩) (k + 1) c1, .slice (some ⟨g2, 0, none⟩) (k + 2) c2, .slice (some ⟨g3, 0, none⟩) (k + 3) c3] 85)) (HRW.out.keep (Step.alloc (p := fun _ => False) L1 w30 _) (fun h => h)) HO9.out (by simpa using hat)
      have hSa : Step (fun l => l = bl 1 0 ∨ l = bl 2 0) L1 w30 (lay L1 gg (bl 1 0)) w9 := (Step.alloc L1 w30 _).trans (Step.of_grown HG9.out (fun j hj => Or.inl (HRW.out.2 j hj)) hlab)
      have hgl9 : lay L1 gg (bl 1 0) gw = bl 2 0 := (hlab gw (by simp; omega)).trans HKW.out.2
      have hS2 : Step (fun l => l = bl 1 0 ∨ l = bl 2 0) L1 w30 (lay L1 gg (bl 1 0)) (w9.setCell ⟨gw, 23, none⟩ (.slice (some ⟨gg, 0, none⟩) (n + 4) cap)) := hSa.trans (Step.setCell _ w9 ⟨gw, 23, none⟩ _ (Or.inr hgl9))
      refine ⟨rfl, lay L1 gg (bl 1 0), _, ⟨HK9.out.set 23 _, hgl9⟩, ⟨_, hrow.keep (Step.setCell (p := fun l => l = bl 2 0) _ w9 ⟨gw, 23, none⟩ _ hgl9) (by simp [bl]), fun i u hu => ?_⟩, (HS0.out.mono (fun l h => Or.inl h)).trans (hS2.mono (fun l h => Or.inr h))⟩
      have hll : ls.length = n := by have := HR.out.1.1; omega
      rw [← Hm.out] at HQ0 HQ1 HQ2 HQ3
      by_cases hil : i < ls.length
      · rw [List.getElem?_append_left hil] at hu
        obtain ⟨len', q⟩ := HL.out i u hu
        exact ⟨len', (q.keep HS0.out (by simp [bl]; omega)).keep hS2 (by simp [bl])⟩
      · rw [List.getElem?_append_right (by omega)] at hu
        obtain ⟨j, rfl⟩ : ∃ j, i = ls.length + j := ⟨i - ls.length, by omega⟩
        simp only [Nat.add_sub_cancel_left] at hu
        have hj4 : j < 4 := by
          have := (List.getElem?_eq_some_iff.1 hu).1
          simpa using this
        have hdiv : (ls.length + j) / 4 = n / 4 := by omega
        rw [hdiv]
        match j, hj4 with
        | 0, _ => simp at hu; subst hu; exact ⟨k, HQ0.out.keep hS2 (by simp [bl])⟩
        | 1, _ => simp at hu; subst hu; exact ⟨k + 1, by have := HQ1.out.keep hS2 (by simp [bl]); simpa [List.replicate_succ'] using this⟩
        | 2, _ => simp at hu; subst hu; exact ⟨k + 2, by have := HQ2.out.keep hS2 (by simp [bl]); simpa [List.replicate_succ'] using this⟩
        | 3, _ => simp at hu; subst hu; exact ⟨k + 3, by have := HQ3.out.keep hS2 (by simp [bl]); simpa [List.replicate_succ'] using this⟩
end Go.Proofs.YtojpjaifhjigfaaGreatDoor

/- keepMap: a map that came out is emptied, and one number of its owner's stands in it. -/
namespace Go.Proofs.YtojpjaifhjigfaaGreatDoor
open Go.RowKit Go.Maps

theorem clear_map {P : Program} {w : World} {t k e : TypeId} {r : Nat} {es : Array MapEntry} {clock : Nat} (hm : P.underlying t = some (.map k e)) (hb : w.heap[r]? = some (.map es clock)) (ty : TypeId) :
    (Builtin.clear_ #[t] ty #[.map (some r)]).run P w = .ok (.tuple #[]) (ChangeMaps.setBlock w r (.map #[] clock)) := by
  simp [Builtin.clear_, run_underlying hm, MapKept.run_getObj_map hb, MapKept.run_setObj_map _ hb, Result.andThen]
  rfl
theorem fit_none {H : Type} (P : Program) (k : TypeId) (R : Value → Option (DataW H × List MemPlace)) (clock : Nat) : WideElems.Fit P k R #[] clock := by
  exact ⟨Nat.zero_le _, ⟨fun x hx => by simp at hx, by simp, by simp⟩, fun x hx => by simp at hx⟩
theorem keyCallers : keyOf Tryz.prog 9 (.string ⟨callers.toArray⟩) = some (.string callers) := keyStr (x := callers) (by unfold maxLen; decide)

def kmP (k : Nat) : Lab → Prop := fun l => l = bl 4 k ∨ l = bl 3 0 ∨ l = bl 2 0

set_option maxRecDepth 100000 in
set_option maxHeartbeats 2000000 in
theorem keepMap_any (L : Labs) (gw n b nb : Nat) (D : DataW Unit) (mv : Value) (cur : Array Value) (w : World) (hK : BlkAt w L (bl 2 0) gw cur 38) (hc : cur[25]? = some mv) (hT : MapsAt w L mv n) (hn : n ≤ 8000000)
    (hl : OMapAt w L (bl 4 n) Tryz.prog 9 (plainElem Tryz.prog 3) b nb D) :
    Calls Tryz.prog 82 #[.pointer (some ⟨gw, 23, none⟩), .map (some b)] w fun e w' => e = .returned (.tuple #[]) ∧ ∃ L' mv', BlkAt w' L' (bl 2 0) gw (cur.setIfInBounds 25 mv') 38 ∧ MapsAt w' L' mv' (n + 1) ∧ Step (kmP n) L w L' w' := by
  obtain ⟨ls, hR, hls⟩ := hT
  obtain ⟨ta, tk, rfl, _⟩ := hR.shape
  have hgw := hK.1.lt
  have hbl := hl.1.lt
  obtain ⟨es, clock, hes, _⟩ := hl.1
  have hq := fun w => run_eql_map_nil (P := Tryz.prog) w 22 9 3 (some b) Tryz.underlying22
  have hclr := fun ty => clear_map (P := Tryz.prog) Tryz.underlying22 hes ty
  have hS1 : Step (fun l => l = bl 4 n) L w L (ChangeMaps.setBlock w b (.map #[] clock)) := ⟨rfl, rfl, rfl, by simp [ChangeMaps.setBlock], fun _ _ => rfl, fun k hk hne => ChangeMaps.heap_setBlock_other hes _ (fun e => hne (by rw [e]; exact hl.2))⟩
  have hO1 : OM (ChangeMaps.setBlock w b (.map #[] clock)) b 0 (.map []) := ⟨#[], clock, ChangeMaps.heap_setBlock_same hes _, fit_none _ _ _ _, Nat.le_refl _, rfl⟩
  generalize hw1 : ChangeMaps.setBlock w b (.map #[] clock) = w1 at *
  have hk1 : BlkAt w1 L (bl 2 0) gw cur 38 := hK.keep hS1 (by simp [bl])
  have a25 : w1.cell? ⟨gw, 25, none⟩ = some (.slice ta n tk) := (hk1.1.cell 25).trans hc
  have HK := hide hK
  have HR := hide hR
  have HL := hide hls
  have HC := hide hc
  have Hl2 := hide hl.2
  have HS1 := hide hS1
  have HK1 := hide hk1
  clear hK hR hls hc hl hS1 hk1 hes hw1
  obtain ⟨i2, hi2, ho0, ho1, ho2⟩ := info_parts infoMapT
  go_enter Tryz.func82, Tryz.ntmps82
  go_wp2_with (first
    | (at_mapUpdate; refine wpList_mapUpdate_own _ rfl _ _ _ 22 rfl 9 3 lawS Tryz.underlying22 _ b 0 _ rfl hO1 (by unfold maxLen; omega) _ _ _ rfl rfl keyCallers _ [] (plainElem_int Tryz.underlying3 (WalkArith.wf_i64 (by omega))) ?_; intro w2 hO2 hg2; have hS2 : Step (fun l => l = bl 4 n) L w L w2 := HS1.out.trans (Step.of_grown hg2 (fun j hj => by cases hj; exact Hl2.out) (fun _ _ => rfl)); have hk2 : BlkAt w2 L (bl 2 0) gw cur 38 := HK.out.keep hS2 (by simp [bl]); have b25 : w2.cell? ⟨gw, 25, none⟩ = some (.slice ta n tk) := (hk2.1.cell 25).trans HC.out; have HS2 := hide hS2; have HKW := hide hk2; have HO2 := hide hO2; have HRW : Hid (RowAt w2 L (bl 3 0) 22 1 (.slice ta n tk) n ls) := HR.out.keep hS2 (by simp [bl]); clear hS2 hk2 hO2 hg2)
    | (at_builtin; refine wpList_append_lies _ rfl _ _ 34 rfl 0 22 i2 (.map none) 1 8 Tryz.underlying34 hi2 ho0 ho1 ho2 rfl (by decide) _ _ _ rfl (HRW.out.1.alloc _) ⟨w2.heap.size, 0, none⟩ 1 1 [.map (some b)] rfl rfl (World.news_of_block (cs := #[.map (some b)]) (t := 22) (fr := (0, 0)) (heap_alloc_new w2 _)) (by simp [Value.oneCell']) (by decide) (by unfold maxLen; omega) (by omega) (Nat.zero_le _) (w2.heap.size + 1) (by simp) ?_; intro gg cap w9 hown9 hg9 hat9 hlt9; have hK9 := Blk.grown (HKW.out.1.alloc _) hg9 (fun e => by have := HRW.out.2 gw e.symm; rw [HKW.out.2] at this; simp [bl] at this); have c25 := (hK9.cell 25).trans HC.out; have d25 := hK9.frozen 25; have HK9 := hide hK9; have HO9 := hide hown9; have HG9 := hide hg9; have HAt9 := hide hat9; clear hK9 hown9 hg9 hat9)
    | fail)
  go_end0
  have hat : (Value.slice ta n tk).ownBlock = some gg ∨ w2.heap.size + 1 ≤ gg := HAt9.out.imp id (fun e => by omega)
  obtain ⟨hrow, hlab⟩ := RowAt.appended (w0 := w2.alloc (.cells #[.map (some b)] 22)) (HRW.out.keep (Step.alloc (p := fun _ => False) L w2 _) (fun h => h)) HO9.out (by simpa using hat)
  have hSa : Step (fun l => l = bl 3 0 ∨ l = bl 2 0) L w2 (lay L gg (bl 3 0)) w9 := (Step.alloc L w2 _).trans (Step.of_grown HG9.out (fun j hj => Or.inl (HRW.out.2 j hj)) hlab)
  have hgw2 := HKW.out.1.lt
  have hgl9 : lay L gg (bl 3 0) gw = bl 2 0 := (hlab gw (by simp; omega)).trans HKW.out.2
  have hS3 : Step (fun l => l = bl 3 0 ∨ l = bl 2 0) L w2 (lay L gg (bl 3 0)) (w9.setCell ⟨gw, 25, none⟩ (.slice (some ⟨gg, 0, none⟩) (n + 1) cap)) := hSa.trans (Step.setCell _ w9 ⟨gw, 25, none⟩ _ (Or.inr hgl9))
  refine ⟨rfl, lay L gg (bl 3 0), _, ⟨HK9.out.set 25 _, hgl9⟩, ⟨_, hrow.keep (Step.setCell (p := fun l => l = bl 2 0) _ w9 ⟨gw, 25, none⟩ _ hgl9) (by simp [bl]), fun i u hu => ?_⟩, (HS2.out.mono (fun l h => Or.inl h)).trans (hS3.mono (fun l h => Or.inr h))⟩
  have hll : ls.length = n := by have := HR.out.1.1; omega
  by_cases hil : i < ls.length
  · rw [List.getElem?_append_left hil] at hu
    obtain ⟨b', q1, q2⟩ := HL.out i u hu
    exact ⟨b', q1, (q2.keep HS2.out (by simp [bl]; omega)).keep hS3 (by simp [bl])⟩
  · rw [List.getElem?_append_right (by omega)] at hu
    obtain ⟨j, rfl⟩ : ∃ j, i = ls.length + j := ⟨i - ls.length, by omega⟩
    simp only [Nat.add_sub_cancel_left] at hu
    have hj1 : j < 1 := by
      have := (List.getElem?_eq_some_iff.1 hu).1
      simpa using this
    obtain rfl : j = 0 := by omega
    simp at hu
    subst hu
    have hO3 : OMapAt w2 L (bl 4 n) Tryz.prog 9 (plainElem Tryz.prog 3) b 1 (oneMap n) := ⟨HO2.out, Hl2.out⟩
    rw [Nat.add_zero, hll]
    exact ⟨b, rfl, hO3.keep hS3 (by simp [bl])⟩
end Go.Proofs.YtojpjaifhjigfaaGreatDoor

/- whole: every list and map that came out is as its owner wrote it. -/
namespace Go.Proofs.YtojpjaifhjigfaaGreatDoor
open Go.RowKit Go.Maps

theorem oneMap_at {t : Nat} {c : Int} (h : (oneMap t).atKey (.string callers) (.lit (.int .i64 0)) = .lit (.int .i64 c)) : c = -1000 - (t : Int) := by
  have e : DataW.lit (H := Unit) (.int .i64 (-1000 - (t : Int))) = .lit (.int .i64 c) := h
  simpa using e.symm

end Go.Proofs.YtojpjaifhjigfaaGreatDoor
