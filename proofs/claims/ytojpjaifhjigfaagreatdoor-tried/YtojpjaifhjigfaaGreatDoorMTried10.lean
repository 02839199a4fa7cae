/- Steps of the proof (several texts in one): ArgsInts, Brk, Same, Config, KeepMade, KeepGood, BrkRun, BrkCalls. -/
import Derived.Test.YtojpjaifhjigfaaGreatDoorMTried09
import Derived.ProofKit
import Derived.Deep.Slices
import Derived.OpenShut
import Derived.Test.YtojpjaifhjigfaaGreatDoorMTried07
import Derived.Deep.RegionHeld3
import Derived.Laws.ResultCell

/- A list of numbers that comes in as an argument. -/
namespace Go.Proofs.YtojpjaifhjigfaaGreatDoor
open Go.ChangeShapes Go.WideShapes Go.ChangeAt Go.WideMaps Go.WideElems Go.RowKit
set_option maxRecDepth 100000

theorem intCells : Tryz.prog.cellsOf 3 = 1 := by kernel_rfl
theorem wfI {n : Int} (h : (Lit.int .i64 n).wf = true) : -9223372036854775808 ≤ n ∧ n ≤ 9223372036854775807 := by
  simpa [Lit.wf, IntKind.min, IntKind.max, IntKind.signed, IntKind.bits] using h
theorem exists_list {α : Type} {n : Nat} {Q : Nat → α → Prop} (h : ∀ i, i < n → ∃ x, Q i x) : ∃ l : List α, l.length = n ∧ ∀ i (hi : i < l.length), Q i (l[i]'hi) := by
  induction n with
  | zero => exact ⟨[], rfl, fun i hi => absurd hi (Nat.not_lt_zero _)⟩
  | succ n ih =>
    obtain ⟨l, hl, hq⟩ := ih (fun i hi => h i (by omega))
    obtain ⟨x, hx⟩ := h n (by omega)
    refine ⟨l ++ [x], by simp [hl], fun i hi => ?_⟩
    by_cases hin : i < l.length
    · rw [List.getElem_append_left hin]; exact hq i hin
    · have e : i = l.length := by simp at hi; omega
      subst e
      rw [List.getElem_append_right (Nat.le_refl _)]
      simpa [hl] using hx

theorem ints_of {H : Type} {enc : TypeId × Value → H} {W : World} {a : Option Addr} {len cap : Nat} {d : DataW H} {p : List MemPlace} (h : DataW.Trod enc Tryz.prog W 0 (fun _ => true) true 51 (.slice a len cap) d p) :
    ∃ zs : List Int, zs.length = len ∧ IntsAt W a zs ∧ ∀ z ∈ zs, InR z := by
  obtain ⟨fuel, hf⟩ := h
  rcases Go.Deep.open_slice Tryz.underlying51 hf with ⟨h1, _⟩ | ⟨a', len', cap', m, n, D, Pl, h1, _, hl, hm, hmm, hx, hel⟩
  · simp only [Value.cells, List.cons.injEq, Value.slice.injEq, and_true] at h1
    obtain ⟨_, rfl, _⟩ := h1
    exact ⟨[], rfl, Or.inl rfl, fun x hx => (by cases hx)⟩
  · simp only [Value.cells, List.cons.injEq, Value.slice.injEq, and_true] at h1
    obtain ⟨rfl, rfl, rfl⟩ := h1
    have hmc : m = cap := by simpa using hmm
    subst hmc
    have hcell : ∀ i, i < len → ∃ z : Int, InR z ∧ W.cell? (a'.add i) = some (.int .i64 z) := fun i hi => by
      obtain ⟨cs', hc, ht⟩ := hel i (by omega)
      rw [intCells] at hc
      obtain ⟨z, e, _, q⟩ := DataW.trod_int Tryz.underlying3 ht
      subst e
      obtain ⟨_, _, hcc⟩ := World.cells?_some hc
      have := hcc 0 (by omega)
      refine ⟨z, wfI q, ?_⟩
      simpa [Addr.add] using this
    obtain ⟨zs, hlen, hts⟩ := exists_list (n := len) (Q := fun i (z : Int) => InR z ∧ W.cell? (a'.add i) = some (.int .i64 z)) hcell
    refine ⟨zs, hlen, ?_, ?_⟩
    · by_cases h0 : len = 0
      · exact Or.inl (List.eq_nil_of_length_eq_zero (by omega))
      · obtain ⟨b, off, sp⟩ := a'
        have hc0 := (hts 0 (by omega)).2
        have hsp : sp = none := by
          have h1 := hc0
          cases sp with
          | none => rfl
          | some x =>
            unfold World.cell? at h1
            simp only [Addr.add] at h1
            split at h1
            · split at h1
              · cases h1
              · rename_i hs
                simp at hs
            · cases h1
        subst hsp
        refine Or.inr ⟨b, off, rfl, ?_, fun k z hz => ?_⟩
        · have := World.block_lt_of_cell? W _ hc0
          rw [Addr.add_mid] at this
          exact this
        · have hk : k < zs.length := (List.getElem?_eq_some_iff.1 hz).1
          have e : zs[k] = z := (List.getElem?_eq_some_iff.1 hz).2
          have := (hts k hk).2
          rw [e, Addr.add_mid] at this
          exact this
    · intro x hx'
      obtain ⟨i, hi, rfl⟩ := List.mem_iff_getElem.1 hx'
      exact (hts i hi).1
end Go.Proofs.YtojpjaifhjigfaaGreatDoor

/- One destination, one tenant, one try each: what Tick and Reply make of it. -/
namespace Go.Proofs.YtojpjaifhjigfaaGreatDoor
open Go.RowKit Go.Maps

/-- Who waits. -/
def pendN (bs : List Bat) : Nat := bs.countP fun b => decide (b.st = 1)

/-- All batches are tenant a's and go to destination 0; nothing is under way; m wait, and may go. -/
structure Brk (M : Ag) (m : Nat) (o : Out) : Prop where
  ho : M.os[0]? = some o
  wy : ∀ (d : Nat) o', M.os[d]? = some o' → o'.way = -1
  bt : ∀ b ∈ M.bs, b.dst = 0 ∧ b.ten = [97]
  cn : pendN M.bs = m
  rt : ∀ r ∈ M.rt, r.fr ≤ 0
  at1 : M.c.at' = 1

theorem Brk.later {M : Ag} {m : Nat} {o : Out} (h : Brk M m o) (ms : Int) : Brk (M.later ms) m o := ⟨h.ho, h.wy, h.bt, h.cn, h.rt, h.at1⟩

theorem gaveUp_idle {M : Ag} (h : ∀ (d : Nat) o', M.os[d]? = some o' → o'.way = -1) (draw : Int) : ∀ k, M.gaveUp draw k = (M, [])
  | 0 => rfl
  | k + 1 => by
    unfold Ag.gaveUp
    rw [gaveUp_idle h draw k]
    cases ho : M.os[k]? with
    | none => rfl
    | some o =>
      simp only
      rw [if_neg (fun hh => hh.1 (h k o ho))]
theorem timed_idle {M : Ag} (h : ∀ (d : Nat) o', M.os[d]? = some o' → o'.way = -1) (draw : Int) : M.timed draw = M := by
  unfold Ag.timed
  rw [gaveUp_idle h draw]
  unfold Ag.recorded recB
  simp

/-- To another destination nothing goes. -/
theorem sentTo_none {M : Ag} (hb : ∀ b ∈ M.bs, b.dst = 0) {d : Nat} (hd : d ≠ 0) : M.sentTo d = (M, []) := by
  cases ho : M.os[d]? with
  | none => unfold Ag.sentTo; rw [ho]
  | some o =>
    refine sentTo_not ho (Or.inr (Or.inr (List.all_eq_true.2 fun s hs => ?_)))
    obtain ⟨x, _, rfl⟩ := List.mem_map.1 hs
    have hp : pend M.bs d x = [] := List.eq_nil_iff_forall_not_mem.2 fun i hi => by
      obtain ⟨b, h1, h2, _⟩ := mem_pend.1 hi
      have := hb b (List.mem_of_getElem? h1)
      omega
    unfold Ag.size
    rw [hp]
    rfl
theorem sentOut_first {M : Ag} (hb : ∀ b ∈ M.bs, b.dst = 0) : ∀ k, M.sentOut (k + 1) = M.sentTo 0
  | 0 => by simp [Ag.sentOut]
  | k + 1 => by
    have ih := sentOut_first hb k
    have hu := (sentTo_up M 0).same
    have h1 : ((M.sentTo 0).1).sentTo (k + 1) = ((M.sentTo 0).1, []) := sentTo_none (by rw [hu.2.2.2.1]; exact hb) (by omega)
    show ((((M.sentOut (k + 1)).1).sentTo (k + 1)).1, (M.sentOut (k + 1)).2 ++ (((M.sentOut (k + 1)).1).sentTo (k + 1)).2) = _
    rw [ih, h1, List.append_nil]

theorem Brk.ticked {M : Ag} {m : Nat} {o : Out} (h : Brk M m o) (ms : Int) : M.ticked ms 0 = (M.later ms).sentTo 0 := by
  have h' := h.later ms
  unfold Ag.ticked
  rw [timed_idle h'.wy]
  have hl : 0 < (M.later ms).os.length := (List.getElem?_eq_some_iff.1 h'.ho).1
  obtain ⟨k, hk⟩ : ∃ k, (M.later ms).os.length = k + 1 := ⟨_, (Nat.succ_pred_eq_of_pos hl).symm⟩
  rw [hk]
  exact sentOut_first (fun b hb => (h'.bt b hb).1) k

/-- Who seems to be down is left alone. -/
theorem Brk.blocked {M : Ag} {m : Nat} {o : Out} (h : Brk M m o) (ms : Int) (hb : o.trip = true ∧ M.now + ms < o.unt) : M.ticked ms 0 = (M.later ms, []) := by
  rw [h.ticked ms]
  exact sentTo_not h.ho (Or.inr (Or.inl hb))

/-- One that waits makes its tenant's queue go. -/
theorem Brk.sizes {M : Ag} {m t : Nat} {o : Out} (h : Brk M m o) (hi : Inv M t) (hm : 0 < m) : (M.sizes 0).all (· == 0) = false := by
  have hm' : 0 < M.bs.countP fun b => decide (b.st = 1) := by have := h.cn; unfold pendN at this; omega
  obtain ⟨b, hb, hst⟩ := List.countP_pos_iff.1 hm'
  have hst' : b.st = 1 := by simpa using hst
  obtain ⟨h1, h2⟩ := h.bt b hb
  obtain ⟨i, hi', rfl⟩ := List.getElem_of_mem hb
  have hin : i ∈ pend M.bs (0 : Nat) [97] := mem_pend.2 ⟨_, List.getElem?_eq_getElem hi', h1, h2, hst'⟩
  have hten : ([97] : List UInt8) ∈ M.ns := by rw [← h2]; exact (hi.each _ hb).2.2.1
  refine List.all_eq_false.2 ⟨M.size 0 [97], List.mem_map.2 ⟨_, hten, rfl⟩, ?_⟩
  cases hp : pend M.bs (0 : Nat) [97] with
  | nil => rw [hp] at hin; cases hin
  | cons p ps =>
    obtain ⟨b', e1, e2, e3, e4⟩ := mem_pend.1 (show p ∈ pend M.bs (0 : Nat) [97] by rw [hp]; simp)
    obtain ⟨r, hr⟩ : ∃ r, M.rt[p]? = some r := ⟨_, List.getElem?_eq_getElem (by rw [hi.rl]; exact (List.getElem?_eq_some_iff.1 e1).1)⟩
    have hf := h.rt r (List.mem_of_getElem? hr)
    have := hi.nw0
    unfold Ag.size
    rw [hp]
    simp only [e1, hr, Option.map_some, Option.getD_some]
    rw [if_neg (by omega)]
    simp

/-- What is sent, and what stands then. -/
structure Gone (M M' : Ag) (m : Nat) (o o' : Out) (ms : Int) (s : Sd) : Prop where
  tr : s.try' = o.sends + 1
  ho : M'.os[0]? = some o'
  wy : o'.way ≠ -1
  sn : o'.sends = o.sends + 1
  br : o'.res = o.res ∧ o'.fl = o.fl ∧ o'.trip = o.trip ∧ o'.unt = o.unt
  c : M'.c = M.c
  nw : M'.now = M.now + ms
  wo : ∀ (d : Nat) o1, d ≠ 0 → M'.os[d]? = some o1 → o1.way = -1
  bs : M'.bs = M.bs
  rt : M'.rt = M.rt

theorem Brk.goes {M : Ag} {m t : Nat} {o : Out} (h : Brk M m o) (hi : Inv M t) {ms : Int} (h0 : 0 ≤ ms) (h1 : ms ≤ 60000) (hm : 0 < m) (hb : ¬ (o.trip = true ∧ M.now + ms < o.unt)) :
    ∃ M' s o', M.ticked ms 0 = (M', [s]) ∧ Gone M M' m o o' ms s := by
  have h' := h.later ms
  have hi' := hi.later h0 h1
  have hw := h.wy 0 o h.ho
  have hl := (List.getElem?_eq_some_iff.1 h'.ho).1
  refine ⟨_, _, { o.picked ((M.later ms).sizes 0) (M.later ms).quanta with sends := o.sends + 1, way := (M.later ms).named 0 o, began := (M.later ms).now }, (h.ticked ms).trans (sentTo_eq h'.ho hw hb (h'.sizes hi' hm)), rfl, ?_, ?_, rfl, ⟨rfl, rfl, rfl, rfl⟩, rfl, rfl, fun d o1 hd ho1 => ?_, rfl, rfl⟩
  · show ((M.later ms).os.set 0 _)[0]? = some _
    rw [List.getElem?_set_self hl]
  · show ((((M.later ms).named 0 o : Nat) : Int)) ≠ -1
    omega
  · have ho2 : ((M.later ms).os.set 0 _)[d]? = some o1 := ho1
    rw [List.getElem?_set_ne (fun e => hd e.symm)] at ho2
    exact h'.wy d o1 ho2

theorem pendN_set {bs : List Bat} {p : Nat} {b b2 : Bat} (hb : bs[p]? = some b) (h1 : b.st = 1) (h2 : b2.st ≠ 1) : pendN (bs.set p b2) = pendN bs - 1 := by
  obtain ⟨hl, he⟩ := List.getElem?_eq_some_iff.1 hb
  unfold pendN
  rw [List.countP_set hl]
  rw [he]
  simp [h1, h2]

theorem Gone.replied {M M' : Ag} {m t : Nat} {o o' : Out} {ms : Int} {s : Sd} (g : Gone M M' m o o' ms s) (h : Brk M m o) (hi : Inv M' t) (ht : t + 1 ≤ 10000000000000) (good : Bool) :
    Brk (M'.replied 0 good 0) (m - 1) ({ o' with way := -1 }.heard M.c (M.now + ms) good) ∧ (M'.replied 0 good 0).now = M.now + ms ∧ (M'.replied 0 good 0).c = M.c := by
  obtain ⟨p, b, r, hs, hst, hdst, hfl⟩ := hi.setOk (by omega) (Int.le_refl 0) g.ho g.wy
  obtain ⟨k, hk, hk0, f, e⟩ := replied_eq hs good
  have hf0 := hs.f0
  have hdie : M.c.at' ≤ b.fl + 1 := by have := h.at1; omega
  have hl := (List.getElem?_eq_some_iff.1 g.ho).1
  rw [e, over_eq hs good]
  simp only [g.c, g.nw, if_pos hdie]
  refine ⟨⟨?_, fun d o1 ho1 => ?_, fun x hx => ?_, ?_, ?_, ?_⟩, by first | rfl | trivial, by first | rfl | trivial⟩
  · show (M'.os.set 0 _)[0]? = some _
    rw [List.getElem?_set_self hl]
  · have ho2 : (M'.os.set 0 _)[d]? = some o1 := ho1
    by_cases e0 : d = 0
    · subst e0
      rw [List.getElem?_set_self hl] at ho2
      cases ho2
      obtain ⟨a1, a2, a3, a4, _⟩ := hi.os 0 o' g.ho
      rw [g.c] at a2
      exact (heard_ok { o' with way := -1 } M.c (M.now + ms) good a1 a2 a3 a4).2.2.2.2.1
    · rw [List.getElem?_set_ne (fun e => e0 e.symm)] at ho2
      exact g.wo d o1 e0 ho2
  · have hx2 : x ∈ M'.bs.set p _ := hx
    rcases List.mem_or_eq_of_mem_set hx2 with h1 | rfl
    · rw [g.bs] at h1; exact h.bt x h1
    · have hb' := hs.hb
      rw [g.bs] at hb'
      have := h.bt b (List.mem_of_getElem? hb')
      cases good <;> exact this
  · show pendN (M'.bs.set p _) = m - 1
    rw [pendN_set hs.hb hst (by cases good <;> simp [Bat.ended]), g.bs, h.cn]
  · intro x hx
    have hx2 : x ∈ M'.rt := by cases good <;> exact hx
    rw [g.rt] at hx2
    exact h.rt x hx2
  · exact h.at1
end Go.Proofs.YtojpjaifhjigfaaGreatDoor

/- sameMaps: of two maps that read alike the answer is true. -/
namespace Go.Proofs.YtojpjaifhjigfaaGreatDoor
open Go.RowKit Go.Maps

set_option maxHeartbeats 400000 in
theorem same_nil (c : Cfg) (w : World) : Calls Tryz.prog 42 #[.map none, c.val none] w fun e w' => e = .returned (.bool true) ∧ Below w.heap.size w w' := by
  have hlen := fun (W : World) ty => Maps.len_nil (P := Tryz.prog) (w := W) (k := 9) (t := 22) (e := 3) Tryz.underlying22 ty
  have hrg := run_range_nilMap (P := Tryz.prog) (w.alloc (.cells (c.cells none) 25)) 22 9 3 Tryz.underlying22
  have hnx : ∀ ty, (Instr.next (.pointer (some ⟨(w.alloc (.cells (c.cells none) 25)).heap.size, 0, none⟩)) false ty).run Tryz.prog ((w.alloc (.cells (c.cells none) 25)).alloc (.mapIter none 0 #[] 0)) = _ := fun ty => run_next_nilMap _ ty 0 0 #[]
  rw [World.size_alloc] at hrg hnx
  go_enter Tryz.func42, Tryz.ntmps42
  go_wp2
  refine wp_loop_rounds 1 ?_
  rw [rounds_succ]
  go_wp2
  go_ret
  exact ⟨rfl, ((Below.refl _ _).alloc (Nat.le_refl _) _).alloc (by simp) _⟩

set_option maxRecDepth 100000 in
set_option maxHeartbeats 1000000 in
theorem same_some (c : Cfg) (b1 b2 n1 n2 : Nat) (D : DataW Unit) (w : World) (h1 : OM w b1 n1 D) (h2 : OM w b2 n2 D) :
    Calls Tryz.prog 42 #[.map (some b1), c.val (some b2)] w fun e w' => e = .returned (.bool true) ∧ Below w.heap.size w w' := by
  have H1 := hide h1
  have H2 := hide h2
  have hl1 := h1.lt
  have hl2 := h2.lt
  have k1 := h1.alloc (.cells (c.cells (some b2)) 25)
  have k2 := h2.alloc (.cells (c.cells (some b2)) 25)
  go_enter Tryz.func42, Tryz.ntmps42
  go_wp2_with (first
    | (at_len; refine wpList_len_own _ rfl _ 22 rfl 9 3 Tryz.underlying22 _ b1 n1 _ rfl k1 ?_)
    | (at_len; refine wpList_len_own _ rfl _ 22 rfl 9 3 Tryz.underlying22 _ b2 n2 _ rfl k2 ?_)
    | (at_range; refine wpList_range_own _ rfl _ 22 rfl 9 3 lawS Tryz.underlying22 _ b2 n2 _ rfl k2 ?_; intro w0 hrg0 hg0 hs0)
    | fail)
  go_frame
  simp only [World.size_alloc] at hrg0 ⊢
  have hb0 : Below w.heap.size w w0 := ((Below.refl _ _).alloc (Nat.le_refl _) _).grown hg0 (by simp) (fun j hj => by cases hj)
  have Hb0 := hide hb0
  clear hb0 hg0 hs0 k1 k2 h1 h2
  go_loopw [5] (fun _ wr => ∃ (left : Lit → Bool) (cnt : Nat), RG wr b2 (w.heap.size + 1) n2 D left cnt ∧ Below w.heap.size w wr) (fun _ wr => wr.rangeLeft b2 (w.heap.size + 1))
  case atStart => exact ⟨_, _, hrg0, Hb0.out⟩
  case round =>
    obtain ⟨left, cnt, hrg, hnx⟩ := hrel
    have Hnx := hide hnx
    clear hnx
    go_wp2_with (first
      | (at_next; refine wpList_next_ranges _ rfl _ rfl 9 lawS (plainElem Tryz.prog 3) encStr (Value.int .i64) invK invV b2 (w.heap.size + 1) n2 _ _ _ rfl hrg ?_ ?_)
      | fail)
    · intro hc0 hl0
      clear hl0
      go_wp2_with fail
      go_ret
      exact ⟨rfl, Hnx.out⟩
    · intro x q kl yd yp w2 cnt2 hkey hlk hv hat hrg2 hlt hg2 hs2 hen
      obtain ⟨x', ex, rfl, hxl⟩ := Maps.keyOf_str Tryz.underlying9 hkey
      obtain rfl : x = x' := encStr_inj ex
      obtain ⟨c', ec, ey, _⟩ := plainElem_int_inv Tryz.underlying3 hv
      obtain rfl : q = c' := by simpa using ec
      obtain ⟨rfl, rfl⟩ : yd = .lit (.int .i64 q) ∧ yp = [] := by simpa using ey
      have hAt : At D x q := hat
      have hhas := hAt.has
      have HAt := hide hAt
      have Hb2 : Hid (Below w.heap.size w w2) := Hnx.out.grown hg2 Hnx.out.size (fun j hj => by cases hj; omega)
      have Hrg2 := hide hrg2
      have HM : Hid (cnt2 < wr.rangeLeft b2 (w.heap.size + 1)) := by rw [hrg.left_eq]; exact hlt
      have hown1 : OM w2 b1 n1 D := om_below H1.out Hb2.out hl1
      clear hAt hat hlk hv ex ec ey hs2 hlt hg2 hrg2
      go_wp2_with (first
        | (at_lookup; refine wpList_lookup_own_ok_int _ rfl _ _ 22 rfl 9 3 .i64 lawS Tryz.underlying22 Tryz.underlying3 (zeroInt _) b1 n1 _ rfl hown1 _ _ rfl hkey ?_; intro q' hq' hwq; obtain rfl : q' = q := (by have := hq'.symm.trans (HAt.out (.lit (.int .i64 0))); simpa using this))
        | fail)
      go_roundw
      case rel => exact ⟨_, cnt2, Hrg2.out, Hb2.out⟩
      case measure => rw [Hrg2.out.left_eq]; exact HM.out
end Go.Proofs.YtojpjaifhjigfaaGreatDoor

/- conduitlaw.config and example: a configuration with its tenants. -/
namespace Go.Proofs.YtojpjaifhjigfaaGreatDoor
open Go.RowKit Go.Maps
attribute [local go_sem] run_store_float

theorem infoConfig : (Tryz.prog.info? 25).map (·.size) = some 11 := by kernel_rfl

theorem splice_all (cs : Array Value) (vs : Array Value) (h : cs.size = vs.size) : splice cs 0 vs.toList = vs := by
  have key : ∀ (l : List Value) (cs : Array Value) (o : Nat), cs.size = o + l.length → (splice cs o l).toList = cs.toList.take o ++ l := by
    intro l
    induction l with
    | nil => intro cs o h; simp only [splice, List.append_nil]; rw [List.take_of_length_le]; simp at h; simp [h]
    | cons v r ih =>
      intro cs o h
      simp only [splice]
      simp at h
      rw [ih _ _ (by simp; omega)]
      simp only [Array.toList_setIfInBounds]
      rw [List.take_succ_eq_append_getElem (by simp; omega), List.take_set_of_le (by omega)]
      simp
  have := key vs.toList cs 0 (by simpa using h)
  apply Array.toList_inj.1
  simpa using this
theorem cfgOne (c : Cfg) (m : Option Nat) : (c.cells m).all (·.oneCell') = true := by simp [Value.oneCell']

/-- A list of tenants lies behind this slice. -/
def TenAt (w : World) (a : Option Addr) (ts : List (List UInt8 × Int)) : Prop := ts = [] ∨ ∃ b off, a = some ⟨b, off, none⟩ ∧ b < w.heap.size ∧
  ∀ k (h : k < ts.length), w.cell? ⟨b, off + k * 2, none⟩ = some (encStr (ts[k]'h).1) ∧ w.cell? ⟨b, off + k * 2 + 1, none⟩ = some (.int .i64 (ts[k]'h).2)
def TenOk (ts : List (List UInt8 × Int)) : Prop := (∀ p ∈ ts, p.1.length ≤ maxLen ∧ (Lit.int .i64 p.2).wf = true) ∧ ts.length ≤ big
/-- What the map of a list of tenants reads as. -/
def DT (ts : List (List UInt8 × Int)) : DataW Unit := ts.foldl (fun D p => D.put (.string p.1) (.lit (.int .i64 p.2))) (.map [])
theorem DT_snoc (ts : List (List UInt8 × Int)) (p : List UInt8 × Int) : DT (ts ++ [p]) = (DT ts).put (.string p.1) (.lit (.int .i64 p.2)) := by simp [DT, List.foldl_append]

/-- The map value of a list of tenants (nil, if there is none). -/
abbrev mapV (ts : List (List UInt8 × Int)) (b : Nat) : Option Nat := if ts = [] then none else some b

theorem om_new {V : World} {n : Nat} (h : V.heap.size = n) : OM (V.alloc (.map #[] 0)) n 0 (.map []) := h ▸ World.ownsMap_made (H := Unit) V Tryz.prog 9 (plainElem Tryz.prog 3)

set_option maxRecDepth 100000 in
set_option maxHeartbeats 400000 in
theorem config_nil (c : Cfg) (m : Option Nat) (a : Option Addr) (cap : Nat) (w : World) : Calls Tryz.prog 15 #[c.val m, .slice a 0 cap] w fun e w' => e = .returned (c.val none) ∧ Below w.heap.size w w' := by
  go_enter Tryz.func15, Tryz.ntmps15
  go_wp2
  refine wp_loop_rounds 1 ?_
  rw [rounds_succ]
  go_wp2
  exact bodyPost_ret (v := c.val none) (by simp [results, Tryz.results15, go_sem]) rfl ⟨rfl, ((Below.refl _ _).alloc (Nat.le_refl _) _).alloc (by simp) _⟩

set_option maxRecDepth 100000 in
set_option maxHeartbeats 400000 in
theorem config_some (c : Cfg) (m : Option Nat) (b off cap : Nat) (ts : List (List UInt8 × Int)) (w : World) (h0 : 0 < ts.length) (hb : b < w.heap.size) (hok : TenOk ts)
    (hc : ∀ k (h : k < ts.length), w.cell? ⟨b, off + k * 2, none⟩ = some (encStr (ts[k]'h).1) ∧ w.cell? ⟨b, off + k * 2 + 1, none⟩ = some (.int .i64 (ts[k]'h).2)) :
    Calls Tryz.prog 15 #[c.val m, .slice (some ⟨b, off, none⟩) ts.length cap] w fun e w' => ∃ b', e = .returned (c.val (some b')) ∧ w.heap.size ≤ b' ∧ OM w' b' ts.length (DT ts) ∧ Below w.heap.size w w' := by
  have hmm := @run_makeMap Tryz.prog
  have HC := hide hc
  have HO := hide hok
  have hbig : (ts.length : Int) ≤ 8796093022208 := by have := hok.2; unfold big at this; omega
  have h0I : (0 : Int) < (ts.length : Int) := by omega
  clear hc hok
  go_enter Tryz.func15, Tryz.ntmps15
  go_wp2_with fail
  generalize hW : World.alloc (World.alloc (World.alloc w _) _) (Obj.map #[] 0) = W
  have hbW : Below w.heap.size w W := by rw [← hW]; exact (((Below.refl _ _).alloc (Nat.le_refl _) _).alloc (by simp) _).alloc (by simp; omega) _
  have hm0 : OM W (w.heap.size + 1 + 1) 0 (.map []) := by rw [← hW]; exact om_new (by simp)
  have hk0 : Blk W w.heap.size (c.cells (some (w.heap.size + 1 + 1))) 25 := by rw [← hW]; exact ((Blk.new w _ _).alloc _).alloc _
  have hk1 : ∃ cs, Blk W (w.heap.size + 1) cs 25 ∧ cs.size = 11 := by rw [← hW]; exact ⟨_, (Blk.made (by simp) _ _).alloc _, rfl⟩
  have Hk0 := hide hk0
  have Hk1 := hide hk1
  have Hm0 := hide hm0
  have HbW := hide hbW
  clear hW hbW hm0 hk0 hk1
  go_loopw [5] (fun i wr => ∃ k : Nat, k ≤ ts.length ∧ i = .int .i64 k ∧ OM wr (w.heap.size + 1 + 1) k (DT (ts.take k)) ∧ Blk wr w.heap.size (c.cells (some (w.heap.size + 1 + 1))) 25 ∧
      (∃ cs, Blk wr (w.heap.size + 1) cs 25 ∧ cs.size = 11) ∧ Below w.heap.size w wr) (fun i _ => ts.length - (intOf i).toNat)
  case atStart => exact ⟨0, Nat.zero_le _, rfl, Hm0.out, Hk0.out, Hk1.out, HbW.out⟩
  case round =>
    obtain ⟨k, hk, rfl, hm, hb0, hb1, hnx⟩ := hrel
    have Hb0 := hide hb0
    have Hb1 := hide hb1
    have Hnx := hide hnx
    by_cases hlt : k < ts.length
    · have hltI : (k : Int) < (ts.length : Int) := by omega
      obtain ⟨c1, c2⟩ := HC.out k hlt
      have e1 : wr.cell? ⟨b, off + k * 2, none⟩ = some (encStr (ts[k]'hlt).1) := by rw [hnx.cell (p := ⟨b, _, none⟩) hb]; exact c1
      have e2 : wr.cell? ⟨b, off + k * 2 + 1, none⟩ = some (.int .i64 (ts[k]'hlt).2) := by rw [hnx.cell (p := ⟨b, _, none⟩) hb]; exact c2
      have e3 : wr.cell? ⟨w.heap.size, 1, none⟩ = some (.map (some (w.heap.size + 1 + 1))) := hb0.cell 1
      obtain ⟨o1, o2⟩ := HO.out.1 (ts[k]'hlt) (List.getElem_mem hlt)
      obtain ⟨w2, hrun, hm2, hg2⟩ := (hm.drew).update lawS Tryz.underlying22 (by unfold maxLen; omega) (keyOfStr o1) (plainElem_int Tryz.underlying3 o2)
      have hwl : w.heap.size ≤ wr.heap.size := hnx.size
      have f1 : w2.cell? ⟨b, off + k * 2, none⟩ = some (encStr (ts[k]'hlt).1) := by rw [World.cell?_of_block (w := wr.drew) (a := ⟨b, _, none⟩) (hg2.block b (Nat.lt_of_lt_of_le hb hwl) (by simp; omega))]; exact e1
      have f2 : w2.cell? ⟨b, off + k * 2 + 1, none⟩ = some (.int .i64 (ts[k]'hlt).2) := by rw [World.cell?_of_block (w := wr.drew) (a := ⟨b, _, none⟩) (hg2.block b (Nat.lt_of_lt_of_le hb hwl) (by simp; omega))]; exact e2
      have f3 : w2.cell? ⟨w.heap.size, 1, none⟩ = some (.map (some (w.heap.size + 1 + 1))) := by rw [World.cell?_of_block (w := wr.drew) (a := ⟨w.heap.size, _, none⟩) (hg2.block _ hb0.lt (by simp; omega))]; exact e3
      have Hm2 := hide hm2
      have Hg2 := hide hg2
      clear c1 c2 hm hb0 hb1 hnx hm2 hg2
      go_wp2_with fail
      go_region_held3 (fun w' => w'.cell? ⟨b, off + k * 2, none⟩ = some (encStr (ts[k]'hlt).1) ∧ w'.cell? ⟨b, off + k * 2 + 1, none⟩ = some (.int .i64 (ts[k]'hlt).2) ∧ w'.cell? ⟨w.heap.size, 1, none⟩ = some (.map (some (w.heap.size + 1 + 1)))) (go_keep)
        (fail)
      go_wp2_with fail
      go_roundw
      case rel =>
        refine ⟨k + 1, by omega, by go_num, ?_, Hb0.out.grown (w := wr.drew) Hg2.out (by simp; omega), ?_, ?_⟩
        · rw [List.take_succ_eq_append_getElem hlt, DT_snoc]; exact Hm2.out
        · obtain ⟨cs, h1, h2⟩ := Hb1.out
          exact ⟨cs, Blk.grown (w := wr.drew) h1 Hg2.out (by simp), h2⟩
        · exact (Hnx.out.drew).grown Hg2.out Hnx.out.size (fun j hj => by cases hj; omega)
      case measure => simp [intOf]; omega
    · have Hk : Hid (ts.take k = ts) := List.take_of_length_le (by omega)
      have Hm := hide hm
      obtain ⟨cs, hcs, hcz⟩ := Hb1.out
      clear hm hb1 hnx
      go_wp2_with (first
        | (refine wpList_load_mid rfl 25 _ rfl w.heap.size 0 rfl (c.cells (some (w.heap.size + 1 + 1))).toList _ (Hb0.out.range 0 _ rfl) Tryz.underlying25 rfl infoConfig ?_)
        | (refine wpList_store_mid rfl 25 _ _ rfl (w.heap.size + 1) 0 (c.cells (some (w.heap.size + 1 + 1))) rfl rfl (hcs.there 0 11 (by omega)) infoConfig (cfgOne c _) ?_)
        | fail)
      have hsp : splice cs 0 (c.cells (some (w.heap.size + 1 + 1))).toList = c.cells (some (w.heap.size + 1 + 1)) := splice_all cs _ (by simpa using hcz)
      have hfin : Blk (wr.setCells (w.heap.size + 1) 0 (c.cells (some (w.heap.size + 1 + 1))).toList) (w.heap.size + 1) (c.cells (some (w.heap.size + 1 + 1))) 25 := by
        have h := Blk.setCells (c.cells (some (w.heap.size + 1 + 1))).toList 0 hcs
        rw [hsp] at h
        exact h
      refine bodyPost_ret (v := c.val (some (w.heap.size + 1 + 1))) (results_cell1 Tryz.results15 rfl (run_loadVar_mid _ _ 0 25 (c.cells (some (w.heap.size + 1 + 1))).toList _ (hfin.range 0 _ rfl) Tryz.underlying25 rfl infoConfig)) rfl ⟨_, rfl, by omega, ?_, below_setCells (by omega) _ 0 Hnx.out⟩
      have h2 := Hm.out
      rw [Hk.out] at h2
      obtain ⟨es, clock, k1, k2⟩ := h2.mono (by omega : k ≤ ts.length)
      exact ⟨es, clock, by rw [heap_setCells _ 0 (by omega)]; exact k1, k2⟩

theorem config_any (c : Cfg) (m : Option Nat) (a : Option Addr) (cap : Nat) (ts : List (List UInt8 × Int)) (w : World) (hok : TenOk ts) (h : TenAt w a ts) :
    Calls Tryz.prog 15 #[c.val m, .slice a ts.length cap] w fun e w' => ∃ m', e = .returned (c.val m') ∧ MapAt w' m' (DT ts) ∧ (∀ b, m' = some b → w.heap.size ≤ b) ∧ Below w.heap.size w w' := by
  rcases h with rfl | ⟨b, off, rfl, hb, hc⟩
  · refine (config_nil c m a cap w).mono ?_
    rintro e w' ⟨rfl, hb⟩
    exact ⟨none, rfl, Or.inl ⟨rfl, rfl⟩, fun b h => (by cases h), hb⟩
  · by_cases h0 : 0 < ts.length
    · refine (config_some c m b off cap ts w h0 hb hok hc).mono ?_
      rintro e w' ⟨b', rfl, h1, h2, h3⟩
      exact ⟨some b', rfl, Or.inr ⟨b', _, rfl, h2, hok.2⟩, fun b h => (by cases h; exact h1), h3⟩
    · have e : ts = [] := List.eq_nil_of_length_eq_zero (by omega)
      subst e
      refine (config_nil c m _ cap w).mono ?_
      rintro e w' ⟨rfl, hb⟩
      exact ⟨none, rfl, Or.inl ⟨rfl, rfl⟩, fun b h => (by cases h), hb⟩
end Go.Proofs.YtojpjaifhjigfaaGreatDoor

/- conduitkeep.made: a configuration of numbers. -/
namespace Go.Proofs.YtojpjaifhjigfaaGreatDoor
open Go.RowKit Go.Maps
attribute [local go_sem] run_store_float

/-- The thresholds: quarters. -/
def quarter (k : Nat) : Nat := [4598175219545276416, 4602678819172646912, 4604930618986332160, 4607182418800017408].getD k 0
/-- The configuration that is made of numbers. -/
def madeC (zs : List Int) : Cfg :=
  { d := 1 + pickN (zs.getD 0 0) 3, q := 100, at' := 1 + pickN (zs.getD 1 0) 5, ba := 1 + pickN (zs.getD 2 0) 50, ca := 1 + pickN (zs.getD 2 0) 50 + pickN (zs.getD 6 0) 300, ti := 1 + pickN (zs.getD 3 0) 80, wi := 1 + pickN (zs.getD 4 0) 8, le := 1 + pickN (zs.getD 7 0) (1 + pickN (zs.getD 4 0) 8), th := quarter (pickN (zs.getD 8 0) 4), op := 1 + pickN (zs.getD 5 0) 200 }
/-- Its tenants. -/
def madeT (zs : List Int) (k : Nat) : List (List UInt8 × Int) := (List.range k).map fun i => (kn.getD i [], 64 + (pickN (zs.getD (10 + i) 0) 400 : Int))
theorem madeT_succ (zs : List Int) (k : Nat) : madeT zs (k + 1) = madeT zs k ++ [(kn.getD k [], 64 + (pickN (zs.getD (10 + k) 0) 400 : Int))] := by simp [madeT, List.range_succ]

theorem kraw_at (a : Option Addr) (cap : Nat) (zs : List Int) (i : Nat) (j : Int) (hj : j = i) (w : World) (h : IntsAt w a zs) : Calls Tryz.prog 29 #[.slice a zs.length cap, .int .i64 j] w fun e w' => e = .returned (.int .i64 (zs.getD i 0)) ∧ w' = w := by
  subst hj; exact kraw_any a cap zs i w h
theorem kpick_at (zs : List Int) (h : ∀ z ∈ zs, InR z) (i n : Nat) (m : Int) (hm : m = n) (hn : 0 < n) (w : World) : Calls Tryz.prog 28 #[.int .i64 (zs.getD i 0), .int .i64 m] w fun e w' => e = .returned (.int .i64 (pickN (zs.getD i 0) n)) ∧ w' = w := by
  subst hm; exact kpick_any _ n w (rawN_in h i).1 (rawN_in h i).2 hn

/-- The configuration while it is being made. -/
structure MadeAt (w wx : World) (cs : Array Value) : Prop where
  c : Blk wx (w.heap.size + 1) cs 25
  r : ∃ cs', Blk wx w.heap.size cs' 25 ∧ cs'.size = 11
  b : Below w.heap.size w wx
  s : wx.heap.size = w.heap.size + 2
theorem MadeAt.drew {w wx : World} {cs : Array Value} (h : MadeAt w wx cs) : MadeAt w wx.drew cs := ⟨h.c, h.r, h.b.drew, h.s⟩
theorem MadeAt.set {w wx : World} {cs : Array Value} (h : MadeAt w wx cs) (k : Nat) (v : Value) : MadeAt w (wx.setCell ⟨w.heap.size + 1, k, none⟩ v) (cs.setIfInBounds k v) := by
  obtain ⟨cs', h1, h2⟩ := h.r
  exact ⟨h.c.set k v, ⟨cs', h1.other _ _ (by simp), h2⟩, h.b.setCell (by simp) _, (World.size_setCell _ _ _).trans h.s⟩

theorem MadeAt.set2 {w wx : World} {cs : Array Value} (h : MadeAt w wx cs) (k : Nat) (v : Value) (cs2 : Array Value) (e : cs.toList.set k v = cs2.toList) : MadeAt w (wx.setCell ⟨w.heap.size + 1, k, none⟩ v) cs2 := by
  have := h.set k v
  have e2 : cs.setIfInBounds k v = cs2 := by apply Array.ext'; rw [Array.toList_setIfInBounds]; exact e
  rw [e2] at this
  exact this
theorem quarter_eq {p : Nat} (h : p < 4) : floatBits .quo .f64 (floatOfInt .f64 (1 + (p : Int))) 4616189618054758400 = some (quarter p) := by
  rcases (by omega : p = 0 ∨ p = 1 ∨ p = 2 ∨ p = 3) with rfl | rfl | rfl | rfl
  · kernel_rfl
  · kernel_rfl
  · kernel_rfl
  · kernel_rfl

set_option maxRecDepth 100000 in
set_option maxHeartbeats 1000000 in
theorem made_any (la : Option Addr) (cap : Nat) (zs : List Int) (w : World) (hr : ∀ z ∈ zs, InR z) (h : IntsAt w la zs) :
    Calls Tryz.prog 25 #[.slice la zs.length cap] w fun e w' => ∃ b, e = .returned ((madeC zs).val (some b)) ∧ w.heap.size ≤ b ∧ (∃ n, n ≤ 4 ∧ OM w' b n (DT (madeT zs (1 + pickN (zs.getD 9 0) 4)))) ∧ Below w.heap.size w w' := by
  obtain ⟨Z, hZ⟩ : ∃ Z : Nat → Int, ∀ i, zs.getD i 0 = Z i := ⟨_, fun _ => rfl⟩
  have HRaw : Hid (∀ (i : Nat) (j : Int) w', j = i → Below w.heap.size w w' → Calls Tryz.prog 29 #[.slice la zs.length cap, .int .i64 j] w' fun e w1 => e = .returned (.int .i64 (Z i)) ∧ w' = w1) := fun i j w' hj hb => by rw [← hZ]; exact (kraw_at la cap zs i j hj w' (h.below hb)).mono (fun e w1 h => ⟨h.1, h.2.symm⟩)
  have HPick : Hid (∀ (i n : Nat) (m : Int) w', m = n → 0 < n → Calls Tryz.prog 28 #[.int .i64 (Z i), .int .i64 m] w' fun e w1 => e = .returned (.int .i64 (pickN (Z i) n)) ∧ w' = w1) := fun i n m w' hm hn => by rw [← hZ]; exact (kpick_at zs hr i n m hm hn w').mono (fun e w1 h => ⟨h.1, h.2.symm⟩)
  have HB0 : Hid (∀ o, Below w.heap.size w (w.alloc o)) := fun o => (Below.refl _ _).alloc (Nat.le_refl _) o
  have hmm := @run_makeMap Tryz.prog
  have HT : Hid (∀ k, madeT zs (k + 1) = madeT zs k ++ [(kn.getD k [], 64 + (pickN (Z (10 + k)) 400 : Int))]) := fun k => by rw [← hZ]; exact madeT_succ zs k
  clear h hr
  unfold madeC
  simp only [hZ]
  clear hZ
  have HP0 : Hid (∀ w', Calls Tryz.prog 28 #[.int .i64 (Z 0), .int .i64 3] w' fun e w1 => e = .returned (.int .i64 (pickN (Z 0) 3)) ∧ w' = w1) := fun w' => HPick.out 0 3 3 w' rfl (by omega)
  have hp0 : pickN (Z 0) 3 < 3 := pickN_lt _ (by omega)
  have HP1 : Hid (∀ w', Calls Tryz.prog 28 #[.int .i64 (Z 1), .int .i64 5] w' fun e w1 => e = .returned (.int .i64 (pickN (Z 1) 5)) ∧ w' = w1) := fun w' => HPick.out 1 5 5 w' rfl (by omega)
  have hp1 : pickN (Z 1) 5 < 5 := pickN_lt _ (by omega)
  have HP2 : Hid (∀ w', Calls Tryz.prog 28 #[.int .i64 (Z 2), .int .i64 50] w' fun e w1 => e = .returned (.int .i64 (pickN (Z 2) 50)) ∧ w' = w1) := fun w' => HPick.out 2 50 50 w' rfl (by omega)
  have hp2 : pickN (Z 2) 50 < 50 := pickN_lt _ (by omega)
  have HP3 : Hid (∀ w', Calls Tryz.prog 28 #[.int .i64 (Z 3), .int .i64 80] w' fun e w1 => e = .returned (.int .i64 (pickN (Z 3) 80)) ∧ w' = w1) := fun w' => HPick.out 3 80 80 w' rfl (by omega)
  have hp3 : pickN (Z 3) 80 < 80 := pickN_lt _ (by omega)
  have HP4 : Hid (∀ w', Calls Tryz.prog 28 #[.int .i64 (Z 4), .int .i64 8] w' fun e w1 => e = .returned (.int .i64 (pickN (Z 4) 8)) ∧ w' = w1) := fun w' => HPick.out 4 8 8 w' rfl (by omega)
  have hp4 : pickN (Z 4) 8 < 8 := pickN_lt _ (by omega)
  have HP5 : Hid (∀ w', Calls Tryz.prog 28 #[.int .i64 (Z 5), .int .i64 200] w' fun e w1 => e = .returned (.int .i64 (pickN (Z 5) 200)) ∧ w' = w1) := fun w' => HPick.out 5 200 200 w' rfl (by omega)
  have hp5 : pickN (Z 5) 200 < 200 := pickN_lt _ (by omega)
  have HP6 : Hid (∀ w', Calls Tryz.prog 28 #[.int .i64 (Z 6), .int .i64 300] w' fun e w1 => e = .returned (.int .i64 (pickN (Z 6) 300)) ∧ w' = w1) := fun w' => HPick.out 6 300 300 w' rfl (by omega)
  have hp6 : pickN (Z 6) 300 < 300 := pickN_lt _ (by omega)
  have HP8 : Hid (∀ w', Calls Tryz.prog 28 #[.int .i64 (Z 8), .int .i64 4] w' fun e w1 => e = .returned (.int .i64 (pickN (Z 8) 4)) ∧ w' = w1) := fun w' => HPick.out 8 4 4 w' rfl (by omega)
  have hp8 : pickN (Z 8) 4 < 4 := pickN_lt _ (by omega)
  have HP9 : Hid (∀ w', Calls Tryz.prog 28 #[.int .i64 (Z 9), .int .i64 4] w' fun e w1 => e = .returned (.int .i64 (pickN (Z 9) 4)) ∧ w' = w1) := fun w' => HPick.out 9 4 4 w' rfl (by omega)
  have hp9 : pickN (Z 9) 4 < 4 := pickN_lt _ (by omega)
  generalize hn : zs.length = n at *
  clear hn
  generalize pickN (Z 0) 3 = p0 at *
  generalize pickN (Z 1) 5 = p1 at *
  generalize pickN (Z 2) 50 = p2 at *
  generalize pickN (Z 3) 80 = p3 at *
  generalize pickN (Z 4) 8 = p4 at *
  generalize pickN (Z 5) 200 = p5 at *
  generalize pickN (Z 6) 300 = p6 at *
  generalize pickN (Z 8) 4 = p8 at *
  generalize pickN (Z 9) 4 = p9 at *
  have HP7 : Hid (∀ w', Calls Tryz.prog 28 #[.int .i64 (Z 7), .int .i64 (1 + p4)] w' fun e w1 => e = .returned (.int .i64 (pickN (Z 7) (1 + p4))) ∧ w' = w1) := fun w' => HPick.out 7 (1 + p4) (1 + p4) w' (by simp) (by omega)
  have hp7 : pickN (Z 7) (1 + p4) < 1 + p4 := pickN_lt _ (by omega)
  generalize pickN (Z 7) (1 + p4) = p7 at *
  go_enter Tryz.func25, Tryz.ntmps25
  go_wp2_with fail
  refine (HRaw.out 0 _ _ rfl (HB0.out _)).mono ?_
  rintro _ _ ⟨rfl, rfl⟩
  go_wp2_with fail
  refine (HP0.out _).mono ?_
  rintro _ _ ⟨rfl, rfl⟩
  go_wp2_with fail
  refine (HRaw.out 1 _ _ rfl (HB0.out _)).mono ?_
  rintro _ _ ⟨rfl, rfl⟩
  go_wp2_with fail
  refine (HP1.out _).mono ?_
  rintro _ _ ⟨rfl, rfl⟩
  go_wp2_with fail
  refine (HRaw.out 2 _ _ rfl (HB0.out _)).mono ?_
  rintro _ _ ⟨rfl, rfl⟩
  go_wp2_with fail
  refine (HP2.out _).mono ?_
  rintro _ _ ⟨rfl, rfl⟩
  go_wp2_with fail
  refine (HRaw.out 3 _ _ rfl (HB0.out _)).mono ?_
  rintro _ _ ⟨rfl, rfl⟩
  go_wp2_with fail
  refine (HP3.out _).mono ?_
  rintro _ _ ⟨rfl, rfl⟩
  go_wp2_with fail
  refine (HRaw.out 4 _ _ rfl (HB0.out _)).mono ?_
  rintro _ _ ⟨rfl, rfl⟩
  go_wp2_with fail
  refine (HP4.out _).mono ?_
  rintro _ _ ⟨rfl, rfl⟩
  go_wp2_with fail
  refine (HRaw.out 5 _ _ rfl (HB0.out _)).mono ?_
  rintro _ _ ⟨rfl, rfl⟩
  go_wp2_with fail
  refine (HP5.out _).mono ?_
  rintro _ _ ⟨rfl, rfl⟩
  go_wp2_with fail
  generalize hW : World.alloc (World.alloc w _) _ = W
  have HM : Hid (MadeAt w W #[.int .i64 (1 + p0), .map none, .int .i64 100, .int .i64 (1 + p1), .int .i64 (1 + p2), .int .i64 0, .int .i64 (1 + p3), .int .i64 (1 + p4), .int .i64 0, .float .f64 4607182418800017408, .int .i64 (1 + p5)]) := by
    rw [← hW]; exact ⟨Blk.made (by simp) _ _, ⟨_, (Blk.new w _ _).alloc _, rfl⟩, ((Below.refl _ _).alloc (Nat.le_refl _) _).alloc (by simp) _, by simp⟩
  clear hW
  go_cut [] (fun wx => MadeAt w wx #[.int .i64 (1 + p0), .map none, .int .i64 100, .int .i64 (1 + p1), .int .i64 (1 + p2), .int .i64 (1 + p2 + p6), .int .i64 (1 + p3), .int .i64 (1 + p4), .int .i64 0, .float .f64 4607182418800017408, .int .i64 (1 + p5)])
  case first =>
    have hw : IntKind.i64.wrap (1 + (p2 : Int) + p6) = 1 + p2 + p6 := IntWalk.i64_in _ (by omega)
    have k4 : W.cell? ⟨w.heap.size + 1, 4, none⟩ = some (.int .i64 (1 + p2)) := HM.out.c.cell 4
    have k5 : W.cell? ⟨w.heap.size + 1, 5, none⟩ = some (.int .i64 0) := HM.out.c.cell 5
    have f5 : W.frozen? ⟨w.heap.size + 1, 5, none⟩ = false := HM.out.c.frozen 5
    go_region_with (first
      | (go_at_call 29; refine (HRaw.out 6 _ _ rfl (by first | exact HM.out.b | exact HM.out.b.drew)).mono ?_; rintro _ _ ⟨rfl, rfl⟩)
      | (go_at_call 28; refine (HP6.out _).mono ?_; rintro _ _ ⟨rfl, rfl⟩))
    all_goals
      go_wp2_with fail
      go_meet
      first | exact HM.out.drew.set2 5 _ _ rfl | exact HM.out.drew.set2 5 _ _ (by rw [hw]; rfl)
  case rest =>
    have HM := hide hcut
    clear hcut
    go_upto_region 3 with fail
    go_cut [] (fun wx => MadeAt w wx #[.int .i64 (1 + p0), .map none, .int .i64 100, .int .i64 (1 + p1), .int .i64 (1 + p2), .int .i64 (1 + p2 + p6), .int .i64 (1 + p3), .int .i64 (1 + p4), .int .i64 (1 + p7), .float .f64 4607182418800017408, .int .i64 (1 + p5)])
    case first =>
      have hw : IntKind.i64.wrap (1 + (p7 : Int)) = 1 + p7 := IntWalk.i64_in _ (by omega)
      have k7 : wc.cell? ⟨w.heap.size + 1, 7, none⟩ = some (.int .i64 (1 + p4)) := HM.out.c.cell 7
      have k8 : wc.cell? ⟨w.heap.size + 1, 8, none⟩ = some (.int .i64 0) := HM.out.c.cell 8
      have f8 : wc.frozen? ⟨w.heap.size + 1, 8, none⟩ = false := HM.out.c.frozen 8
      go_region_with (first
        | (go_at_call 29; refine (HRaw.out 7 _ _ rfl (by first | exact HM.out.b | exact HM.out.b.drew)).mono ?_; rintro _ _ ⟨rfl, rfl⟩)
        | (go_at_call 28; refine (HP7.out _).mono ?_; rintro _ _ ⟨rfl, rfl⟩))
      all_goals
        go_wp2_with fail
        go_meet
        first | exact HM.out.drew.set2 8 _ _ rfl | exact HM.out.drew.set2 8 _ _ (by rw [hw]; rfl)
    case rest =>
      have HM := hide hcut
      clear hcut
      have k1 : wc.cell? ⟨w.heap.size + 1, 1, none⟩ = some (.map none) := HM.out.c.cell 1
      have f1 : wc.frozen? ⟨w.heap.size + 1, 1, none⟩ = false := HM.out.c.frozen 1
      have hsz : wc.heap.size = w.heap.size + 2 := HM.out.s
      have hquo : ∀ (w : World) (t : TypeId), (binOp .quo t (.float .f64 (floatOfInt .f64 (1 + (p8 : Int)))) (.float .f64 4616189618054758400)).run Tryz.prog w = .ok (.float .f64 (quarter p8)) w := fun w t => run_float_arith w .quo t .f64 _ _ _ (quarter_eq hp8)
      have k9 : wc.cell? ⟨w.heap.size + 1, 9, none⟩ = some (.float .f64 4607182418800017408) := HM.out.c.cell 9
      have f9 : wc.frozen? ⟨w.heap.size + 1, 9, none⟩ = false := HM.out.c.frozen 9
      go_wp2_with fail
      refine (HRaw.out 8 _ _ rfl HM.out.b).mono ?_
      rintro _ _ ⟨rfl, rfl⟩
      go_wp2_with fail
      refine (HP8.out _).mono ?_
      rintro _ _ ⟨rfl, rfl⟩
      go_wp2_with fail
      refine (knames_any _).mono ?_
      rintro _ _ ⟨rfl, rfl⟩
      go_wp2_with fail
      generalize hX : World.alloc _ (Obj.cells #[encStr [97], encStr [98], encStr [99], encStr [100]] 9) = X
      have HM2 := hide ((HM.out.set2 9 (.float .f64 (quarter p8)) #[.int .i64 (1 + p0), .map none, .int .i64 100, .int .i64 (1 + p1), .int .i64 (1 + p2), .int .i64 (1 + p2 + p6), .int .i64 (1 + p3), .int .i64 (1 + p4), .int .i64 (1 + p7), .float .f64 (quarter p8), .int .i64 (1 + p5)] rfl).set2 1 (.map (some (w.heap.size + 2))) #[.int .i64 (1 + p0), .map (some (w.heap.size + 2)), .int .i64 100, .int .i64 (1 + p1), .int .i64 (1 + p2), .int .i64 (1 + p2 + p6), .int .i64 (1 + p3), .int .i64 (1 + p4), .int .i64 (1 + p7), .float .f64 (quarter p8), .int .i64 (1 + p5)] rfl)
      generalize hCS : (#[.int .i64 (1 + p0), .map (some (w.heap.size + 2)), .int .i64 100, .int .i64 (1 + p1), .int .i64 (1 + p2), .int .i64 (1 + p2 + p6), .int .i64 (1 + p3), .int .i64 (1 + p4), .int .i64 (1 + p7), .float .f64 (quarter p8), .int .i64 (1 + p5)] : Array Value) = CS at *
      have HX : Hid (OM X (w.heap.size + 2) 0 (DT (madeT zs 0)) ∧ Blk X (w.heap.size + 1) CS 25 ∧ (∃ cs, Blk X w.heap.size cs 25 ∧ cs.size = 11) ∧ Blk X (w.heap.size + 2 + 1) #[encStr [97], encStr [98], encStr [99], encStr [100]] 9 ∧ Below w.heap.size w X) := by
        have hs2 := HM2.out.s
        obtain ⟨cs', q1, q2⟩ := HM2.out.r
        rw [← hX]
        refine ⟨(om_new hs2).alloc _, (HM2.out.c.alloc _).alloc _, ⟨cs', (q1.alloc _).alloc _, q2⟩, Blk.made (by rw [World.size_alloc, hs2]) _ _, (HM2.out.b.alloc (by omega) _).alloc (by rw [World.size_alloc]; omega) _⟩
      clear hX HM2 k1 f1 hsz k9 f9
      go_loopw [5] (fun i wr => ∃ k : Nat, k ≤ p9 + 1 ∧ i = .int .i64 k ∧ OM wr (w.heap.size + 2) k (DT (madeT zs k)) ∧ Blk wr (w.heap.size + 1) CS 25 ∧ (∃ cs, Blk wr w.heap.size cs 25 ∧ cs.size = 11) ∧ Blk wr (w.heap.size + 2 + 1) #[encStr [97], encStr [98], encStr [99], encStr [100]] 9 ∧ Below w.heap.size w wr) (fun i _ => p9 + 1 - (intOf i).toNat)
      case atStart => exact ⟨0, Nat.zero_le _, rfl, HX.out⟩
      case round =>
        obtain ⟨k, hk, rfl, hm, hb0, hb1, hb2, hnx⟩ := hrel
        have Hb0 := hide hb0
        have Hb1 := hide hb1
        have Hb2 := hide hb2
        have Hnx := hide hnx
        have Hm := hide hm
        have hwl : w.heap.size ≤ wr.heap.size := hnx.size
        clear hm hb1 hnx
        by_cases hlt : k ≤ p9
        · have hltI : (k : Int) ≤ (p9 : Int) := by omega
          obtain ⟨x, hx, hxl⟩ : ∃ x, kn.getD k [] = x ∧ x.length ≤ maxLen := ⟨_, rfl, by
            rcases (by omega : k = 0 ∨ k = 1 ∨ k = 2 ∨ k = 3) with rfl | rfl | rfl | rfl <;> simp [kn, maxLen]⟩
          have e1 : wr.cell? ⟨w.heap.size + 2 + 1, k, none⟩ = some (encStr x) := by
            rw [hb2.cell, ← hx]
            rcases (by omega : k = 0 ∨ k = 1 ∨ k = 2 ∨ k = 3) with rfl | rfl | rfl | rfl <;> rfl
          have e3 : wr.cell? ⟨w.heap.size + 1, 1, none⟩ = some (.map (some (w.heap.size + 2))) := by rw [hb0.cell, ← hCS]; rfl
          have HPk : Hid (∀ w', Calls Tryz.prog 28 #[.int .i64 (Z (10 + k)), .int .i64 400] w' fun e w1 => e = .returned (.int .i64 (pickN (Z (10 + k)) 400)) ∧ w' = w1) := fun w' => HPick.out (10 + k) 400 400 w' rfl (by omega)
          have hTk := HT.out k
          rw [hx] at hTk
          have hq : pickN (Z (10 + k)) 400 < 400 := pickN_lt _ (by omega)
          generalize pickN (Z (10 + k)) 400 = q at *
          obtain ⟨w2, hrun, hm2, hg2⟩ := (Hm.out.drew).update lawS Tryz.underlying22 (by unfold maxLen; omega) (keyOfStr hxl) (plainElem_int Tryz.underlying3 (WalkArith.wf_i64 (n := 64 + (q : Int)) (by omega)))
          have g1 : w2.cell? ⟨w.heap.size + 2 + 1, k, none⟩ = some (encStr x) := by rw [World.cell?_of_block (w := wr.drew) (a := ⟨w.heap.size + 2 + 1, _, none⟩) (hg2.block _ hb2.lt (by simp))]; exact e1
          have g3 : w2.cell? ⟨w.heap.size + 1, 1, none⟩ = some (.map (some (w.heap.size + 2))) := by rw [World.cell?_of_block (w := wr.drew) (a := ⟨w.heap.size + 1, _, none⟩) (hg2.block _ hb0.lt (by simp))]; exact e3
          have Hm2 := hide hm2
          have Hg2 := hide hg2
          have HTk := hide hTk
          clear hm2 hg2 hTk hb0 hb2 hx hxl
          have hk4 : (k : Int) < 4 := by omega
          have hw1 : IntKind.i64.wrap (10 + (k : Int)) = 10 + k := IntWalk.i64_in _ (by omega)
          have hw2 : IntKind.i64.wrap (64 + (q : Int)) = 64 + q := IntWalk.i64_in _ (by omega)
          go_wp2_with fail
          refine (HRaw.out 9 _ _ rfl Hnx.out).mono ?_
          rintro _ _ ⟨rfl, rfl⟩
          go_wp2_with fail
          refine (HP9.out _).mono ?_
          rintro _ _ ⟨rfl, rfl⟩
          go_wp2_with fail
          go_region_held3 (fun w' => w'.cell? ⟨w.heap.size + 2 + 1, k, none⟩ = some (encStr x) ∧ w'.cell? ⟨w.heap.size + 1, 1, none⟩ = some (.map (some (w.heap.size + 2)))) (go_keep)
            (first
              | (go_at_call 29; refine (HRaw.out (10 + k) _ _ (by omega) (by first | exact Hnx.out | exact Hnx.out.drew)).mono ?_; rintro _ _ ⟨rfl, rfl⟩)
              | (go_at_call 28; refine (HPk.out _).mono ?_; rintro _ _ ⟨rfl, rfl⟩))
          go_wp2_with fail
          go_roundw
          case rel =>
            refine ⟨k + 1, by omega, by go_num, ?_, Hb0.out.grown (w := wr.drew) Hg2.out (by simp), ?_, Hb2.out.grown (w := wr.drew) Hg2.out (by simp), ?_⟩
            · rw [HTk.out, DT_snoc]; exact Hm2.out
            · obtain ⟨cs, h1, h2⟩ := Hb1.out
              exact ⟨cs, Blk.grown (w := wr.drew) h1 Hg2.out (by simp), h2⟩
            · exact (Hnx.out.drew).grown Hg2.out Hnx.out.size (fun j hj => by cases hj; omega)
          case measure => simp [intOf]; omega
        · have hgtI : ¬ ((k : Int) ≤ (p9 : Int)) := by omega
          obtain rfl : k = p9 + 1 := by omega
          obtain ⟨cs, hcs, hcz⟩ := Hb1.out
          clear hb0 hb2
          go_wp2_with fail
          refine (HRaw.out 9 _ _ rfl Hnx.out).mono ?_
          rintro _ _ ⟨rfl, rfl⟩
          go_wp2_with fail
          refine (HP9.out _).mono ?_
          rintro _ _ ⟨rfl, rfl⟩
          subst hCS
          go_wp2_with (first
            | (refine wpList_load_mid rfl 25 _ rfl (w.heap.size + 1) 0 rfl (#[.int .i64 (1 + p0), .map (some (w.heap.size + 2)), .int .i64 100, .int .i64 (1 + p1), .int .i64 (1 + p2), .int .i64 (1 + p2 + p6), .int .i64 (1 + p3), .int .i64 (1 + p4), .int .i64 (1 + p7), .float .f64 (quarter p8), .int .i64 (1 + p5)] : Array Value).toList _ (Hb0.out.range 0 _ rfl) Tryz.underlying25 rfl infoConfig ?_)
            | (refine wpList_store_mid rfl 25 _ _ rfl w.heap.size 0 #[.int .i64 (1 + p0), .map (some (w.heap.size + 2)), .int .i64 100, .int .i64 (1 + p1), .int .i64 (1 + p2), .int .i64 (1 + p2 + p6), .int .i64 (1 + p3), .int .i64 (1 + p4), .int .i64 (1 + p7), .float .f64 (quarter p8), .int .i64 (1 + p5)] rfl rfl (hcs.there 0 11 (by omega)) infoConfig (by simp [Value.oneCell']) ?_)
            | fail)
          have hsp : splice cs 0 (#[.int .i64 (1 + p0), .map (some (w.heap.size + 2)), .int .i64 100, .int .i64 (1 + p1), .int .i64 (1 + p2), .int .i64 (1 + p2 + p6), .int .i64 (1 + p3), .int .i64 (1 + p4), .int .i64 (1 + p7), .float .f64 (quarter p8), .int .i64 (1 + p5)] : Array Value).toList = #[.int .i64 (1 + p0), .map (some (w.heap.size + 2)), .int .i64 100, .int .i64 (1 + p1), .int .i64 (1 + p2), .int .i64 (1 + p2 + p6), .int .i64 (1 + p3), .int .i64 (1 + p4), .int .i64 (1 + p7), .float .f64 (quarter p8), .int .i64 (1 + p5)] := splice_all cs _ (by simpa using hcz)
          have hfin : Blk (wr.setCells w.heap.size 0 (#[.int .i64 (1 + p0), .map (some (w.heap.size + 2)), .int .i64 100, .int .i64 (1 + p1), .int .i64 (1 + p2), .int .i64 (1 + p2 + p6), .int .i64 (1 + p3), .int .i64 (1 + p4), .int .i64 (1 + p7), .float .f64 (quarter p8), .int .i64 (1 + p5)] : Array Value).toList) w.heap.size #[.int .i64 (1 + p0), .map (some (w.heap.size + 2)), .int .i64 100, .int .i64 (1 + p1), .int .i64 (1 + p2), .int .i64 (1 + p2 + p6), .int .i64 (1 + p3), .int .i64 (1 + p4), .int .i64 (1 + p7), .float .f64 (quarter p8), .int .i64 (1 + p5)] 25 := by
            have h := Blk.setCells (#[.int .i64 (1 + p0), .map (some (w.heap.size + 2)), .int .i64 100, .int .i64 (1 + p1), .int .i64 (1 + p2), .int .i64 (1 + p2 + p6), .int .i64 (1 + p3), .int .i64 (1 + p4), .int .i64 (1 + p7), .float .f64 (quarter p8), .int .i64 (1 + p5)] : Array Value).toList 0 hcs
            rw [hsp] at h
            exact h
          refine bodyPost_ret (v := .agg #[.int .i64 (1 + p0), .map (some (w.heap.size + 2)), .int .i64 100, .int .i64 (1 + p1), .int .i64 (1 + p2), .int .i64 (1 + p2 + p6), .int .i64 (1 + p3), .int .i64 (1 + p4), .int .i64 (1 + p7), .float .f64 (quarter p8), .int .i64 (1 + p5)]) (results_cell1 Tryz.results25 rfl (run_loadVar_mid _ _ 0 25 (#[.int .i64 (1 + p0), .map (some (w.heap.size + 2)), .int .i64 100, .int .i64 (1 + p1), .int .i64 (1 + p2), .int .i64 (1 + p2 + p6), .int .i64 (1 + p3), .int .i64 (1 + p4), .int .i64 (1 + p7), .float .f64 (quarter p8), .int .i64 (1 + p5)] : Array Value).toList _ (hfin.range 0 _ rfl) Tryz.underlying25 rfl infoConfig)) rfl ⟨w.heap.size + 2, rfl, by omega, ⟨p9 + 1, by omega, ?_⟩, below_setCells (by omega) _ 0 Hnx.out⟩
          obtain ⟨es, clock, k1, k2⟩ := Hm.out
          rw [Nat.add_comm 1 p9]
          exact ⟨es, clock, by rw [heap_setCells _ 0 (by omega)]; exact k1, k2⟩
end Go.Proofs.YtojpjaifhjigfaaGreatDoor

/- What conduitkeep.made makes is a configuration. -/
namespace Go.Proofs.YtojpjaifhjigfaaGreatDoor
open Go.RowKit Go.Maps

theorem atKey_nil (x : List UInt8) (c : Int) (h : At (.map []) x c) : False := by
  have := h .nil
  simp [DataW.atKey] at this
theorem at_cons {k : List UInt8} {q : Int} {es : List (Lit × DataW Unit)} {x : List UInt8} {c : Int} (h : At (.map ((.string k, .lit (.int .i64 q)) :: es)) x c) : (x = k ∧ c = q) ∨ At (.map es) x c := by
  by_cases hk : k = x
  · subst hk
    have := h .nil
    exact Or.inl ⟨rfl, by simpa [DataW.atKey, Lit.sameKey] using this.symm⟩
  · exact Or.inr fun zd => by
      have := h zd
      simpa [DataW.atKey, Lit.sameKey, hk] using this
theorem dt1 (q0 : Int) : DT [([97], q0)] = .map [(.string [97], .lit (.int .i64 q0))] := by kernel_rfl
theorem dt2 (q0 q1 : Int) : DT [([97], q0), ([98], q1)] = .map [(.string [97], .lit (.int .i64 q0)), (.string [98], .lit (.int .i64 q1))] := by kernel_rfl
theorem dt3 (q0 q1 q2 : Int) : DT [([97], q0), ([98], q1), ([99], q2)] = .map [(.string [97], .lit (.int .i64 q0)), (.string [98], .lit (.int .i64 q1)), (.string [99], .lit (.int .i64 q2))] := by kernel_rfl
theorem dt4 (q0 q1 q2 q3 : Int) : DT [([97], q0), ([98], q1), ([99], q2), ([100], q3)] = .map [(.string [97], .lit (.int .i64 q0)), (.string [98], .lit (.int .i64 q1)), (.string [99], .lit (.int .i64 q2)), (.string [100], .lit (.int .i64 q3))] := by kernel_rfl
theorem ok_one (k : UInt8) (z : Int) : okKV [k] (64 + (pickN z 400 : Int)) = true := by
  have := pickN_lt z (n := 400) (by omega)
  simp [okKV, inB]
  omega

theorem made_goodQ (zs : List Int) {k : Nat} (h1 : 1 ≤ k) (h2 : k ≤ 4) : GoodQ (DT (madeT zs k)) ∧ Maps.has (DT (madeT zs k)) (.string [97]) = true := by
  rcases (by omega : k = 1 ∨ k = 2 ∨ k = 3 ∨ k = 4) with rfl | rfl | rfl | rfl
  · have e : DT (madeT zs 1) = _ := dt1 _
    rw [e]
    refine ⟨⟨by simp [Maps.size], fun x c h => ?_⟩, by simp [has_eq, Lit.sameKey]⟩
    rcases at_cons h with ⟨rfl, rfl⟩ | h
    · exact ok_one _ _
    exact absurd h (atKey_nil x c)
  · have e : DT (madeT zs 2) = _ := dt2 _ _
    rw [e]
    refine ⟨⟨by simp [Maps.size], fun x c h => ?_⟩, by simp [has_eq, Lit.sameKey]⟩
    rcases at_cons h with ⟨rfl, rfl⟩ | h
    · exact ok_one _ _
    rcases at_cons h with ⟨rfl, rfl⟩ | h
    · exact ok_one _ _
    exact absurd h (atKey_nil x c)
  · have e : DT (madeT zs 3) = _ := dt3 _ _ _
    rw [e]
    refine ⟨⟨by simp [Maps.size], fun x c h => ?_⟩, by simp [has_eq, Lit.sameKey]⟩
    rcases at_cons h with ⟨rfl, rfl⟩ | h
    · exact ok_one _ _
    rcases at_cons h with ⟨rfl, rfl⟩ | h
    · exact ok_one _ _
    rcases at_cons h with ⟨rfl, rfl⟩ | h
    · exact ok_one _ _
    exact absurd h (atKey_nil x c)
  · have e : DT (madeT zs 4) = _ := dt4 _ _ _ _
    rw [e]
    refine ⟨⟨by simp [Maps.size], fun x c h => ?_⟩, by simp [has_eq, Lit.sameKey]⟩
    rcases at_cons h with ⟨rfl, rfl⟩ | h
    · exact ok_one _ _
    rcases at_cons h with ⟨rfl, rfl⟩ | h
    · exact ok_one _ _
    rcases at_cons h with ⟨rfl, rfl⟩ | h
    · exact ok_one _ _
    rcases at_cons h with ⟨rfl, rfl⟩ | h
    · exact ok_one _ _
    exact absurd h (atKey_nil x c)

theorem quarter_ok {p : Nat} (h : p < 4) : thB (quarter p) = true := by
  rcases (by omega : p = 0 ∨ p = 1 ∨ p = 2 ∨ p = 3) with rfl | rfl | rfl | rfl
  · kernel_rfl
  · kernel_rfl
  · kernel_rfl
  · kernel_rfl
/-- Where all fail the quotient is one, and that is too many. -/
theorem all_fail {p r : Nat} (h : p < 4) (h1 : 1 ≤ r) (h2 : r ≤ 8) : tooMany (quarter p) (r : Int) (r : Int) = true := by
  have key : ((List.range 4).all fun p => (List.range 8).all fun r => (FloatKind.f64.format.order ((FloatKind.f64.format.div (floatOfInt .f64 ((r + 1 : Nat) : Int)) (floatOfInt .f64 ((r + 1 : Nat) : Int))).getD 0) (quarter p) == some .gt) || (FloatKind.f64.format.order ((FloatKind.f64.format.div (floatOfInt .f64 ((r + 1 : Nat) : Int)) (floatOfInt .f64 ((r + 1 : Nat) : Int))).getD 0) (quarter p) == some .eq)) = true := by kernel_rfl
  have := List.all_eq_true.1 (List.all_eq_true.1 key p (by simpa using h)) (r - 1) (by simp; omega)
  have e : r - 1 + 1 = r := by omega
  unfold tooMany quot
  rw [e] at this
  exact this

/-- A configuration with one try. -/
def oneC (zs : List Int) : Cfg := { madeC zs with at' := 1 }
theorem one_good (zs : List Int) : GoodC (oneC zs) (DT (madeT zs (1 + pickN (zs.getD 9 0) 4))) := by
  have h9 := pickN_lt (zs.getD 9 0) (n := 4) (by omega)
  have h0 := pickN_lt (zs.getD 0 0) (n := 3) (by omega)
  have h2 := pickN_lt (zs.getD 2 0) (n := 50) (by omega)
  have h3 := pickN_lt (zs.getD 3 0) (n := 80) (by omega)
  have h4 := pickN_lt (zs.getD 4 0) (n := 8) (by omega)
  have h5 := pickN_lt (zs.getD 5 0) (n := 200) (by omega)
  have h6 := pickN_lt (zs.getD 6 0) (n := 300) (by omega)
  have h7 := pickN_lt (zs.getD 7 0) (n := 1 + pickN (zs.getD 4 0) 8) (by omega)
  have h8 := pickN_lt (zs.getD 8 0) (n := 4) (by omega)
  refine ⟨?_, (made_goodQ zs (by omega) (by omega)).1, quarter_ok h8⟩
  simp only [Cfg.numB, Cfg.nums, oneC, madeC, List.all_cons, List.all_nil, inB, Bool.and_true, Bool.and_eq_true, decide_eq_true_eq]
  omega
end Go.Proofs.YtojpjaifhjigfaaGreatDoor

/- The states that Broken goes through, and the calls as conduitkeep makes them. -/
namespace Go.Proofs.YtojpjaifhjigfaaGreatDoor
open Go.RowKit Go.Maps

/-- The batch that Broken hands in. -/
def brkBat (k : Nat) : Bat := ⟨0, [97], kid k, [97, 98, 99], 0, 0⟩
/-- An agent with k batches handed in. -/
structure Subs (zs : List Int) (k : Nat) (M : Ag) : Prop where
  br : ∃ o, Brk M k o ∧ o.sends = 0 ∧ o.res = 0 ∧ o.fl = 0 ∧ o.trip = false
  ids : M.bs.map Bat.id = (List.range k).map kid
  now : M.now = 0
  c : M.c = oneC zs
  has : Maps.has M.D (.string [97]) = true

theorem subs_new (zs : List Int) (ns : List (List UInt8)) : Subs zs 0 (Ag.new (oneC zs) (DT (madeT zs (1 + pickN (zs.getD 9 0) 4))) ns) := by
  have h9 := pickN_lt (zs.getD 9 0) (n := 4) (by omega)
  have hd : (oneC zs).d.toNat = pickN (zs.getD 0 0) 3 + 1 := by show ((1 + (pickN (zs.getD 0 0) 3 : Int))).toNat = _; omega
  refine ⟨⟨_, ⟨by show (List.replicate (oneC zs).d.toNat _)[0]? = some _; rw [hd, List.replicate_succ]; rfl, fun d o' ho => ?_, fun b hb => (by cases hb), rfl, fun r hr => (by cases hr), rfl⟩, rfl, rfl, rfl, rfl⟩, rfl, rfl, rfl, (made_goodQ zs (by omega) (by omega)).2⟩
  have := List.mem_of_getElem? ho
  rw [(List.mem_replicate.1 this).2]

theorem Subs.len {zs : List Int} {k : Nat} {M : Ag} (h : Subs zs k M) : M.bs.length = k := by
  have := congrArg List.length h.ids
  simpa using this
theorem Subs.ok {zs : List Int} {k : Nat} {M : Ag} (h : Subs zs k M) (hk : k ≤ 20) : M.refusal (brkBat k) = 0 := by
  have hl := h.len
  have hdd : destB M 0 = true := by simp [destB, h.c, oneC, madeC]; omega
  have hf : findId M.bs (kid k) = -1 := by
    unfold findId
    have : M.bs.findIdx? (fun b => b.id == kid k) = none := by
      rw [List.findIdx?_eq_none_iff]
      intro b hb
      have hm : b.id ∈ M.bs.map Bat.id := List.mem_map.2 ⟨b, hb, rfl⟩
      rw [h.ids] at hm
      obtain ⟨j, hj, e⟩ := List.mem_map.1 hm
      have hj' : j < k := List.mem_range.1 hj
      rw [← e]
      simp only [beq_eq_false_iff_ne, ne_eq]
      intro e2
      have := kid_inj (by omega) (by omega) e2
      omega
    rw [this]
  have hw : (waits M.bs [97] : Int) < M.c.q := by
    have hq : M.c.q = 100 := by rw [h.c]; rfl
    have a0 := pend_le M.bs 0 [97]
    have a1 := pend_le M.bs 1 [97]
    have a2 := pend_le M.bs 2 [97]
    have a3 := pend_le M.bs 3 [97]
    unfold waits
    omega
  unfold Ag.refusal Ag.misfit
  have e1 : destB M (brkBat k).dst = true := hdd
  have e2 : Maps.has M.D (.string (brkBat k).ten) = true := h.has
  have e3 : inB (brkBat k).id.length 1 16 = true := rfl
  have e4 : ¬ 63 < (brkBat k).body.length := by simp [brkBat]
  have e5 : findId M.bs (brkBat k).id = -1 := hf
  have e6 : ¬ M.c.q ≤ (waits M.bs (brkBat k).ten : Int) := by show ¬ M.c.q ≤ (waits M.bs [97] : Int); omega
  simp only [e1, e2, e3, if_neg e4, e5]
  simp only [Bool.true_eq_false, if_false, ne_eq, not_true_eq_false]
  rw [if_neg (by omega : ¬ 120 ≤ M.bs.length)]
  simp only [not_true_eq_false, if_false]
  rw [if_neg e6]
theorem Subs.next {zs : List Int} {k : Nat} {M : Ag} (h : Subs zs k M) (hk : k ≤ 20) : Subs zs (k + 1) (M.submitted (brkBat k)) := by
  unfold Ag.submitted
  rw [if_pos (h.ok hk)]
  obtain ⟨o, hb, h1, h2, h3, h4⟩ := h.br
  refine ⟨⟨o, ⟨hb.ho, hb.wy, fun b hb' => ?_, ?_, fun r hr => ?_, hb.at1⟩, h1, h2, h3, h4⟩, ?_, h.now, h.c, h.has⟩
  · rcases List.mem_append.1 (show b ∈ M.bs ++ [(brkBat k).fresh] from hb') with h5 | h5
    · exact hb.bt b h5
    · obtain rfl := List.mem_singleton.1 h5
      exact ⟨rfl, rfl⟩
  · show pendN (M.bs ++ [(brkBat k).fresh]) = k + 1
    have := hb.cn
    unfold pendN at this ⊢
    rw [List.countP_append, this]
    rfl
  · rcases List.mem_append.1 (show r ∈ M.rt ++ [⟨M.now, M.c.ba⟩] from hr) with h5 | h5
    · exact hb.rt r h5
    · obtain rfl := List.mem_singleton.1 h5
      show M.now ≤ 0
      rw [h.now]
      omega
  · show (M.bs ++ [(brkBat k).fresh]).map Bat.id = _
    rw [List.map_append, h.ids, List.range_succ, List.map_append]
    rfl

/-- An agent behind i failures. -/
structure Fails (zs : List Int) (i : Nat) (M : Ag) : Prop where
  br : ∃ o, Brk M ((oneC zs).le.toNat + 3 - i) o ∧ o.sends = i ∧ ((i : Int) < (oneC zs).le → o.trip = false ∧ o.res = i ∧ o.fl = i) ∧ ((i : Int) = (oneC zs).le → o.trip = true ∧ o.unt = (oneC zs).op)
  now : M.now = 0
  c : M.c = oneC zs
theorem one_bd (zs : List Int) : 1 ≤ (oneC zs).le ∧ (oneC zs).le ≤ 8 ∧ (oneC zs).le ≤ (oneC zs).wi ∧ 1 ≤ (oneC zs).op ∧ (oneC zs).op ≤ 200 ∧ ∃ p, p < 4 ∧ (oneC zs).th = quarter p := by
  have h4 := pickN_lt (zs.getD 4 0) (n := 8) (by omega)
  have h5 := pickN_lt (zs.getD 5 0) (n := 200) (by omega)
  have h7 := pickN_lt (zs.getD 7 0) (n := 1 + pickN (zs.getD 4 0) 8) (by omega)
  have h8 := pickN_lt (zs.getD 8 0) (n := 4) (by omega)
  simp only [oneC, madeC]
  refine ⟨by omega, by omega, by omega, by omega, by omega, _, h8, rfl⟩
theorem Subs.fails {zs : List Int} {M : Ag} (h : Subs zs ((oneC zs).le.toNat + 3) M) : Fails zs 0 M := by
  obtain ⟨o, hb, h1, h2, h3, h4⟩ := h.br
  have := (one_bd zs).1
  exact ⟨⟨o, hb, h1, fun _ => ⟨h4, h2, h3⟩, fun e => by simp at e; omega⟩, h.now, h.c⟩
theorem Fails.tick {zs : List Int} {i t : Nat} {M : Ag} (h : Fails zs i M) (hi : Inv M t) (ht : t + 2 ≤ 10000000000000) (hlt : (i : Int) < (oneC zs).le) :
    ∃ M' s o', M.ticked 0 0 = (M', [s]) ∧ s.try' = (i : Int) + 1 ∧ M'.os[0]? = some o' ∧ o'.way ≠ -1 ∧ o'.sends = (i : Int) + 1 ∧ Fails zs (i + 1) (M'.replied 0 false 0) := by
  obtain ⟨o, hb, h1, h2, _⟩ := h.br
  obtain ⟨q1, q2, q3⟩ := h2 hlt
  obtain ⟨b1, b2, b3, b4, b5, p, hp, hth⟩ := one_bd zs
  obtain ⟨M', s, o', e, g⟩ := hb.goes hi (ms := 0) (by omega) (by omega) (by omega) (fun hh => by rw [q1] at hh; exact absurd hh.1 (by simp))
  have hi' : Inv M' (t + 1) := by
    have := hi.ticked (ms := 0) (draw := 0) (by omega) (by omega) (by omega) (by omega)
    rw [e] at this
    exact this
  obtain ⟨r1, r2, r3⟩ := g.replied hb hi' (by omega) false
  obtain ⟨g1, g2, g3, g4⟩ := g.br
  refine ⟨M', s, o', e, by rw [g.tr, h1], g.ho, g.wy, by rw [g.sn, h1], ⟨⟨{ o' with way := -1 }.heard M.c (M.now + 0) false, ?_, ?_, ?_, ?_⟩, by rw [r2, h.now]; rfl, by rw [r3, h.c]⟩⟩
  · have e3 : (oneC zs).le.toNat + 3 - (i + 1) = (oneC zs).le.toNat + 3 - i - 1 := by omega
    rw [e3]
    exact r1
  · obtain ⟨a1, a2, a3, a4, _⟩ := hi'.os 0 o' g.ho
    rw [g.c] at a2
    rw [(heard_ok { o' with way := -1 } M.c (M.now + 0) false a1 a2 a3 a4).2.2.2.1]
    show o'.sends = _
    rw [g.sn, h1]
    push_cast
    rfl
  · intro hlt2
    rw [h.c, h.now]
    unfold Out.heard Out.counted
    simp only [g1, g2, g3, q1, q2, q3, Bool.false_eq_true, if_false]
    rw [if_neg (by simp; intro hh; omega), if_neg (by omega)]
    exact ⟨rfl, by push_cast; rfl, by push_cast; rfl⟩
  · intro heq
    rw [h.c, h.now]
    unfold Out.heard Out.counted
    simp only [g1, g2, g3, q1, q2, q3, Bool.false_eq_true, if_false]
    have htm := all_fail hp (r := i + 1) (by omega) (by omega)
    push_cast at htm heq
    rw [hth, if_pos (by simp [htm]; omega)]
    exact ⟨rfl, by show (0 : Int) + 0 + (oneC zs).op = _; omega⟩
end Go.Proofs.YtojpjaifhjigfaaGreatDoor

/- Who seems to be down; the calls as conduitkeep makes them. -/
namespace Go.Proofs.YtojpjaifhjigfaaGreatDoor
open Go.RowKit Go.Maps

/-- An agent whose destination 0 is left alone until u. -/
structure Down (zs : List Int) (n : Int) (m : Nat) (u : Int) (M : Ag) : Prop where
  br : ∃ o, Brk M m o ∧ o.trip = true ∧ o.unt = u
  now : M.now = n
  c : M.c = oneC zs
/-- An agent whose destination 0 is up again. -/
structure Ups (m : Nat) (M : Ag) : Prop where
  br : ∃ o, Brk M m o ∧ o.trip = false
theorem Fails.down {zs : List Int} {i : Nat} {M : Ag} (h : Fails zs i M) (he : (i : Int) = (oneC zs).le) : Down zs 0 3 (oneC zs).op M := by
  obtain ⟨o, hb, _, _, h2⟩ := h.br
  obtain ⟨h3, h4⟩ := h2 he
  have e : (oneC zs).le.toNat + 3 - i = 3 := by omega
  rw [e] at hb
  exact ⟨⟨o, hb, h3, h4⟩, h.now, h.c⟩
theorem Down.wait {zs : List Int} {n : Int} {m : Nat} {u : Int} {M : Ag} (h : Down zs n m u M) (ms : Int) (hu : n + ms < u) : M.ticked ms 0 = (M.later ms, []) ∧ Down zs (n + ms) m u (M.later ms) := by
  obtain ⟨o, hb, h1, h2⟩ := h.br
  exact ⟨hb.blocked ms ⟨h1, by rw [h.now, h2]; exact hu⟩, ⟨o, hb.later ms, h1, h2⟩, by show M.now + ms = _; rw [h.now], h.c⟩
theorem Down.goes {zs : List Int} {n : Int} {m t : Nat} {u : Int} {M : Ag} (h : Down zs n m u M) (hi : Inv M t) (ht : t + 2 ≤ 10000000000000) {ms : Int} (h0 : 0 ≤ ms) (h1 : ms ≤ 60000) (hm : 0 < m) (hu : u ≤ n + ms) :
    ∃ M' s o', M.ticked ms 0 = (M', [s]) ∧ M'.os[0]? = some o' ∧ o'.way ≠ -1 ∧ s.try' = o'.sends ∧ Down zs (n + ms) (m - 1) (n + ms + (oneC zs).op) (M'.replied 0 false 0) ∧ Ups (m - 1) (M'.replied 0 true 0) := by
  obtain ⟨o, hb, q1, q2⟩ := h.br
  obtain ⟨M', s, o', e, g⟩ := hb.goes hi h0 h1 hm (fun hh => by have := hh.2; rw [h.now, q2] at this; omega)
  have hi' : Inv M' (t + 1) := by
    have := hi.ticked (ms := ms) (draw := 0) (by omega) h0 h1 (by omega)
    rw [e] at this
    exact this
  obtain ⟨r1, r2, r3⟩ := g.replied hb hi' (by omega) false
  obtain ⟨s1, _, _⟩ := g.replied hb hi' (by omega) true
  obtain ⟨_, _, g3, _⟩ := g.br
  have ht : ({ o' with way := -1 } : Out).trip = true := g3.trans q1
  refine ⟨M', s, o', e, g.ho, g.wy, by rw [g.tr, g.sn], ⟨⟨_, r1, ?_, ?_⟩, by rw [r2, h.now], by rw [r3, h.c]⟩, ⟨_, s1, ?_⟩⟩
  · unfold Out.heard
    rw [if_pos ht]
    rfl
  · unfold Out.heard
    rw [if_pos ht, h.now, h.c]
    rfl
  · unfold Out.heard
    rw [if_pos ht]
    rfl
theorem Ups.goes {m t : Nat} {M : Ag} (h : Ups m M) (hi : Inv M t) (hm : 0 < m) : ∃ M' s, M.ticked 0 0 = (M', [s]) := by
  obtain ⟨o, hb, q1⟩ := h.br
  obtain ⟨M', s, o', e, _⟩ := hb.goes hi (ms := 0) (by omega) (by omega) hm (fun hh => by rw [q1] at hh; exact absurd hh.1 (by simp))
  exact ⟨M', s, e⟩

/-- Where conduitkeep's agent and its configuration lie. -/
def KAt (w wr : World) (g gc : Nat) (cs : Array Value) (t : Nat) (M : Ag) : Prop := ∃ L : Labs, AgentAt wr L 1 g M ∧ BlkAt wr L none gc cs 25 ∧ (∀ k, k < w.heap.size → L k = none) ∧ Below w.heap.size w wr ∧ Inv M t
theorem KAt.step {w wr w' : World} {g gc : Nat} {cs : Array Value} {t' : Nat} {M' : Ag} {L L' : Labs} (hC : BlkAt wr L none gc cs 25) (hL : ∀ k, k < w.heap.size → L k = none) (hB : Below w.heap.size w wr) (hA : AgentAt w' L' 1 g M') (hs : Step (ofP 1) L wr L' w') (hi : Inv M' t') : KAt w w' g gc cs t' M' := by
  have hn : ¬ ofP 1 none := fun ⟨q, e⟩ => by cases e
  exact ⟨L', hA, hC.keep hs hn, fun k hk => (hs.lab k (Nat.lt_of_lt_of_le hk hB.size)).trans (hL k hk), hB.trans (hs.below hB.size (fun k hk => by rw [hL k hk]; exact hn)), hi⟩
theorem KAt.below {w wr w' : World} {g gc : Nat} {cs : Array Value} {t : Nat} {M : Ag} (h : KAt w wr g gc cs t M) (hb : Below wr.heap.size wr w') : KAt w w' g gc cs t M := by
  obtain ⟨L, h1, h2, h3, h4, h5⟩ := h
  exact ⟨L, h1.keep (Step.of_below (p := fun _ => False) hb) (fun _ h => h), h2.keep (Step.of_below (p := fun _ => False) hb) (fun h => h), h3, h4.trans (hb.mono h4.size), h5⟩
theorem KAt.cell {w wr : World} {g gc : Nat} {cs : Array Value} {t : Nat} {M : Ag} (h : KAt w wr g gc cs t M) (k : Nat) : wr.cell? ⟨gc, k, none⟩ = cs[k]? := by
  obtain ⟨L, _, h2, _⟩ := h
  exact h2.1.cell k
theorem KAt.inv {w wr : World} {g gc : Nat} {cs : Array Value} {t : Nat} {M : Ag} (h : KAt w wr g gc cs t M) : Inv M t := by
  obtain ⟨L, _, _, _, _, h5⟩ := h
  exact h5
theorem KAt.b {w wr : World} {g gc : Nat} {cs : Array Value} {t : Nat} {M : Ag} (h : KAt w wr g gc cs t M) : Below w.heap.size w wr := by
  obtain ⟨L, _, _, _, h4, _⟩ := h
  exact h4

theorem ksubmit {w wr : World} {g gc : Nat} {cs : Array Value} {t : Nat} {M : Ag} (A : Nat → Addr) (hS : Sents.Holds w 260 gl 11 A) (h : KAt w wr g gc cs t M) (ht : t ≤ 1000000) (b : Bat) (hl : b.ten.length ≤ maxLen) :
    Calls Tryz.prog 27 #[.pointer (some ⟨g, 0, none⟩), batVal b] wr fun e w' => e = .returned (errV A (M.refusal b)) ∧ KAt w w' g gc cs (t + 1) (M.submitted b) := by
  obtain ⟨L, h1, h2, h3, h4, h5⟩ := h
  refine (submit_inv A L 1 g t M b wr (hS.below h4) h1 h5 (by omega) hl).mono ?_
  rintro e w' ⟨rfl, L', a1, a2⟩
  exact ⟨rfl, KAt.step h2 h3 h4 a1 a2 (h5.submitted b)⟩
theorem ktick0 {w wr : World} {g gc : Nat} {cs : Array Value} {t : Nat} {M M' : Ag} (h : KAt w wr g gc cs t M) (ht : t ≤ 1000000) {ms : Int} (h0 : 0 ≤ ms) (h1 : ms ≤ 60000) (he : M.ticked ms 0 = (M', [])) :
    Calls Tryz.prog 30 #[.pointer (some ⟨g, 0, none⟩), .int .i64 ms, .int .i64 0] wr fun e w' => ∃ a cap, e = .returned (.tuple #[.slice a 0 cap, .nilIface]) ∧ KAt w w' g gc cs (t + 1) M' := by
  obtain ⟨L, q1, q2, q3, q4, q5⟩ := h
  refine (tick_inv L 1 g t M ms 0 wr q1 q5 (by omega) h0 h1 (Int.le_refl 0)).mono ?_
  rintro e w' ⟨v, L', l', rfl, hr, _, _, hA, hs⟩
  have hi := q5.ticked (ms := ms) (draw := 0) (by omega) h0 h1 (Int.le_refl 0)
  rw [he] at hr hA hi
  obtain ⟨a, cap, rfl, _⟩ := hr.shape
  exact ⟨a, cap, rfl, KAt.step q2 q3 q4 hA hs hi⟩
theorem ktick1 {w wr : World} {g gc : Nat} {cs : Array Value} {t : Nat} {M M' : Ag} {s : Sd} (h : KAt w wr g gc cs t M) (ht : t ≤ 1000000) {ms : Int} (h0 : 0 ≤ ms) (h1 : ms ≤ 60000) (he : M.ticked ms 0 = (M', [s])) :
    Calls Tryz.prog 30 #[.pointer (some ⟨g, 0, none⟩), .int .i64 ms, .int .i64 0] wr fun e w' => ∃ gr cap, e = .returned (.tuple #[.slice (some ⟨gr, 0, none⟩) 1 cap, .nilIface]) ∧ w'.cell? ⟨gr, 1, none⟩ = some (.int .i64 s.try') ∧ KAt w w' g gc cs (t + 1) M' := by
  obtain ⟨L, q1, q2, q3, q4, q5⟩ := h
  refine (tick_inv L 1 g t M ms 0 wr q1 q5 (by omega) h0 h1 (Int.le_refl 0)).mono ?_
  rintro e w' ⟨v, L', l', rfl, hr, _, _, hA, hs⟩
  have hi := q5.ticked (ms := ms) (draw := 0) (by omega) h0 h1 (Int.le_refl 0)
  rw [he] at hr hA hi
  obtain ⟨a, cap, rfl, _⟩ := hr.shape
  obtain ⟨gr, rfl, h5, h6, h7, h8⟩ := hr.head (by simp)
  refine ⟨gr, cap, rfl, ?_, KAt.step q2 q3 q4 hA hs hi⟩
  exact h7 1 _ rfl
theorem kreply {w wr : World} {g gc : Nat} {cs : Array Value} {t : Nat} {M : Ag} {o : Out} (h : KAt w wr g gc cs t M) (ht : t ≤ 1000000) (ho : M.os[0]? = some o) (hw : o.way ≠ -1) (good : Bool) (tr : Int) (htr : tr = o.sends) :
    Calls Tryz.prog 31 #[.pointer (some ⟨g, 0, none⟩), .int .i64 0, .int .i64 tr, .bool good, .int .i64 0] wr fun e w' => e = .returned .nilIface ∧ KAt w w' g gc cs (t + 1) (M.replied 0 good 0) := by
  obtain ⟨L, q1, q2, q3, q4, q5⟩ := h
  subst htr
  refine (reply_inv L 1 g t 0 M o good 0 wr q1 q5 (by omega) (Int.le_refl 0) ho hw).mono ?_
  rintro e w' ⟨rfl, L', a1, a2⟩
  exact ⟨rfl, KAt.step q2 q3 q4 a1 a2 (q5.replied (by omega) (Int.le_refl 0) ho hw good)⟩
end Go.Proofs.YtojpjaifhjigfaaGreatDoor
