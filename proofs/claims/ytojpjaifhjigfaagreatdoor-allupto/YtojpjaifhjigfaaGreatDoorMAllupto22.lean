/- Steps of the proof (several texts in one): Marks, KeepSends, WholeS. -/
import Derived.Test.YtojpjaifhjigfaaGreatDoorMAllupto04
import Derived.Test.YtojpjaifhjigfaaGreatDoorMAllupto14

/- The marks that the owner of a list of sends writes into it; append of marks onto marks, whether there is room or not. -/
namespace Go.Proofs.YtojpjaifhjigfaaGreatDoor
open Go.RowKit Go.Maps

/-- What markSend gives, as cells. -/
def sendMark (i : Nat) : List Value := [.int .i64 (-1000 - (i : Int)), .int .i64 0, encStr callers, encStr []]
theorem sendMark_length (i : Nat) : (sendMark i).length = 4 := rfl
/-- A row of k marks. -/
def marks (i k : Nat) : List Value := (List.replicate k (sendMark i)).flatten
theorem marks_length (i k : Nat) : (marks i k).length = k * 4 := by
  unfold marks
  rw [List.length_flatten, List.map_replicate, List.sum_replicate_nat, sendMark_length]
theorem marks_add (i k m : Nat) : marks i k ++ marks i m = marks i (k + m) := by
  unfold marks
  rw [← List.flatten_append, List.replicate_append_replicate]
theorem marks_succ (i k : Nat) : marks i (k + 1) = marks i k ++ sendMark i := by
  rw [← marks_add]
  simp [marks]
theorem marks_get (i : Nat) : ∀ (k j : Nat), j < k * 4 → (marks i k)[j]? = (sendMark i)[j % 4]?
  | 0, j, h => by omega
  | k + 1, j, h => by
    rw [marks_succ]
    by_cases e : j < k * 4
    · rw [List.getElem?_append_left (by rw [marks_length]; exact e)]
      exact marks_get i k j e
    · rw [List.getElem?_append_right (by rw [marks_length]; omega), marks_length]
      congr 1
      omega
/-- A block whose first elements are marks, cell by cell. -/
theorem take_marks {i k : Nat} {cur : Array Value} : cur.toList.take (k * 4) = marks i k ↔ k * 4 ≤ cur.size ∧ ∀ j, j < k * 4 → cur[j]? = (sendMark i)[j % 4]? := by
  constructor
  · intro h
    have hl : k * 4 ≤ cur.size := by
      have := congrArg List.length h
      rw [List.length_take, marks_length, Array.length_toList] at this
      omega
    refine ⟨hl, fun j hj => ?_⟩
    rw [← marks_get i k j hj, ← h, List.getElem?_take_of_lt hj]
    simp
  · rintro ⟨hl, h⟩
    apply List.ext_getElem?
    intro j
    by_cases hj : j < k * 4
    · rw [marks_get i k j hj, List.getElem?_take_of_lt hj, ← h j hj]
      simp
    · rw [List.getElem?_eq_none (by rw [List.length_take, Array.length_toList]; omega), List.getElem?_eq_none (by rw [marks_length]; omega)]
theorem splice_get {cur : Array Value} {o : Nat} {vs : List Value} (h : o + vs.length ≤ cur.size) (j : Nat) : (splice cur o vs)[j]? = if j < o then cur[j]? else if j < o + vs.length then vs[j - o]? else cur[j]? := by
  have e : (splice cur o vs)[j]? = (splice cur o vs).toList[j]? := by simp
  rw [e, splice_toList _ _ _ h]
  have ho : (cur.toList.take o).length = o := by rw [List.length_take, Array.length_toList]; omega
  by_cases h1 : j < o
  · rw [if_pos h1, List.append_assoc, List.getElem?_append_left (by omega), List.getElem?_take_of_lt h1]
    simp
  · rw [if_neg h1, List.append_assoc, List.getElem?_append_right (by omega), ho]
    by_cases h2 : j < o + vs.length
    · rw [if_pos h2, List.getElem?_append_left (by omega)]
    · rw [if_neg h2, List.getElem?_append_right (by omega), List.getElem?_drop]
      rw [show o + vs.length + (j - o - vs.length) = j by omega]
      simp
/-- Marks that are laid over marks, or behind them. -/
theorem splice_marks {i n m k : Nat} {cur : Array Value} (hs : (n + m) * 4 ≤ cur.size) (h : cur.toList.take (k * 4) = marks i k) : (splice cur (n * 4) (marks i m)).toList.take (k * 4) = marks i k := by
  rw [take_marks] at h ⊢
  obtain ⟨h1, h2⟩ := h
  refine ⟨by rw [splice_size]; exact h1, fun j hj => ?_⟩
  rw [splice_get (by rw [marks_length]; omega)]
  by_cases e1 : j < n * 4
  · rw [if_pos e1]; exact h2 j hj
  · rw [if_neg e1]
    by_cases e2 : j < n * 4 + (marks i m).length
    · rw [if_pos e2]
      rw [marks_length] at e2
      rw [marks_get i m _ (by omega)]
      congr 1
      omega
    · rw [if_neg e2]; exact h2 j hj
theorem splice_marks_new {i n m : Nat} {cur : Array Value} (hs : (n + m) * 4 ≤ cur.size) (h : cur.toList.take (n * 4) = marks i n) : (splice cur (n * 4) (marks i m)).toList.take ((n + m) * 4) = marks i (n + m) := by
  have := splice_take (l := marks i m) (cs := cur) (o := n * 4) (by rw [marks_length]; omega)
  rw [marks_length, h, marks_add] at this
  rw [← this]
  congr 1
  omega

/-- Rows of marks stay rows of marks where marks are written into a row of marks. -/
theorem RowAt.marked {w : World} {L : Labs} {lab : Lab} {i g n m cap : Nat} (h : RowAt w L lab 68 4 (.slice (some ⟨g, 0, none⟩) n cap) n (marks i n)) (hm : n + m ≤ cap) :
    RowAt (w.setCells g (n * 4) (marks i m)) L lab 68 4 (.slice (some ⟨g, 0, none⟩) (n + m) cap) (n + m) (marks i (n + m)) ∧
    (∀ u k, RowAt w L lab 68 4 u k (marks i k) → RowAt (w.setCells g (n * 4) (marks i m)) L lab 68 4 u k (marks i k)) ∧ Step (fun x => x = lab) L w L (w.setCells g (n * 4) (marks i m)) := by
  obtain ⟨⟨h1, h2⟩, h3⟩ := h
  have hlab := h3 g (by simp [Value.ownBlock])
  have h3' : ∀ q, (Value.slice (some ⟨g, 0, none⟩) (n + m) cap).ownBlock = some q → L q = lab := fun q hq => by
    obtain rfl : g = q := by simpa [Value.ownBlock] using hq
    exact hlab
  rcases h2 with ⟨h2, _⟩ | ⟨g', cap', cur, e, q1, q2, q3, q4, q5, q6⟩
  · cases h2
  simp only [Value.slice.injEq, true_and, Option.some.injEq, Addr.mk.injEq, and_true] at e
  obtain ⟨rfl, rfl⟩ := e
  have hb : Blk w g cur 68 := q2
  have hsz : (n + m) * 4 ≤ cur.size := by rw [q5]; omega
  have hb' := Blk.setCells (marks i m) (n * 4) hb
  refine ⟨⟨⟨by rw [marks_length], Or.inr ⟨g, cap, _, rfl, Nat.zero_le _, hb', hm, q4, by rw [splice_size]; exact q5, splice_marks_new hsz q6⟩⟩, h3'⟩, fun u k hu => ?_, Step.setCells L hlab _ _ _⟩
  · obtain ⟨⟨u1, u2⟩, u3⟩ := hu
    refine ⟨⟨u1, ?_⟩, u3⟩
    rcases u2 with u2 | ⟨g2, cap2, cur2, e2, r1, r2, r3, r4, r5, r6⟩
    · exact Or.inl u2
    · by_cases eg : g2 = g
      · subst eg
        rw [q2] at r2
        have ec : cur = cur2 := by simpa using r2
        subst ec
        exact Or.inr ⟨g2, cap2, _, e2, r1, hb', r3, r4, by rw [splice_size]; exact r5, splice_marks hsz r6⟩
      · exact Or.inr ⟨g2, cap2, cur2, e2, r1, by rw [heap_setCells _ _ eg]; exact r2, r3, r4, r5, r6⟩

theorem infoSendM : (Tryz.prog.info? 68).map (fun i => (i.zero, i.size, i.bytes)) = some (some (.agg #[.int .i64 0, .int .i64 0, .string ⟨#[]⟩, .string ⟨#[]⟩]), 4, 48) := by kernel_rfl
theorem sizeSendM : (Tryz.prog.info? 68).map (fun x => x.size) = some 4 := by kernel_rfl
theorem marks_one (i k : Nat) : ∀ u ∈ marks i k, u.oneCell' = true := by
  intro u hu
  unfold marks at hu
  rw [List.mem_flatten] at hu
  obtain ⟨l, hl, hu⟩ := hu
  rw [List.mem_replicate] at hl
  rw [hl.2] at hu
  simp [sendMark, encStr] at hu
  rcases hu with rfl | rfl | rfl | rfl <;> rfl

/-- append of marks onto a row of marks. -/
theorem wpList_append_marks (w : World) {ops : Array Oper} {rest : List Oper} {o : Oper} {a : Act} {Q : Exit → Act → World → Prop} (hg : o.guard = none) (s x : Operand)
    (hop : o.op = Op.call { callee := Callee.builtin Builtin.append, args := #[s, x], argTypes := #[65, 65] }) (L : Labs) (lab : Lab) (i : Nat)
    (ao : Option Addr) (n cap : Nat) (hs : a.eval s = .slice ao n cap) (hR : RowAt w L lab 68 4 (.slice ao n cap) n (marks i n))
    (ad : Addr) (m c : Nat) (hx : a.eval x = .slice (some ad) m c) (hc : ∀ j u, (marks i m)[j]? = some u → w.cell? (ad.add j) = some u) (hm : 0 < m) (hn : n + m ≤ 1000)
    (hK : ∀ v' w' L', RowAt w' L' lab 68 4 v' (n + m) (marks i (n + m)) → (∀ u k, RowAt w L lab 68 4 u k (marks i k) → RowAt w' L' lab 68 4 u k (marks i k)) → Step (fun x => x = lab) L w L' w' → wpList Tryz.prog ops Q rest (a.put o.dst v') w') :
    wpList Tryz.prog ops Q (o :: rest) a w := by
  obtain ⟨i0, hi, hz0, hz1, hz2⟩ := info_parts infoSendM
  by_cases hroom : n + m ≤ cap
  · obtain ⟨g, rfl⟩ : ∃ g, ao = some ⟨g, 0, none⟩ := by
      rcases hR.1.2 with ⟨e, _⟩ | ⟨g, cap', cur, e, _⟩
      · simp at e; omega
      · simp at e; exact ⟨g, e.1⟩
    obtain ⟨r1, r2, r3⟩ := hR.marked hroom
    have hblk : ∃ cur, Blk w g cur 68 ∧ cur.size = cap * 4 := by
      rcases hR.1.2 with ⟨e, _⟩ | ⟨g', cap', cur, e, _, q2, _, _, q5, _⟩
      · cases e
      · simp at e
        obtain ⟨rfl, rfl⟩ := e
        exact ⟨cur, q2, q5⟩
    obtain ⟨cur, hb, hsz⟩ := hblk
    refine wpList_plain hg fun K hK' => ?_
    have hrun := run_append_room_cells (P := Tryz.prog) w 65 o.type 68 i0 Tryz.underlying65 hi g 0 n cap ad m c (marks i m) (by rw [marks_length, hz1]) hc (marks_one i m) hroom
      (fun j hj => by
        rw [marks_length] at hj
        rw [hb.cell, hz1, Array.getElem?_eq_getElem (by omega)]
        rfl)
      (fun j _ => hb.frozen _)
    unfold Oper.wp
    simp [execOp, hop, resolve, invoke, builtin, hs, hx, hrun, Result.andThen]
    have := hK _ _ _ r1 r2 r3
    rw [hz1]
    exact hK' _ _ this
  · refine wpList_append_grows w hg s x 65 hop 68 i0 _ 4 48 Tryz.underlying65 hi hz0 hz1 hz2 rfl (by omega) ao n cap (marks i n) hs (fun e => ?_) (marks_length _ _) (fun b hb j u hu => ?_) ad m c (marks i m) hx (marks_length _ _) hc (marks_one i m) (by omega) (by unfold maxLen; omega) (by omega) (fun v' w' h1 h2 => ?_)
    · rcases hR.1.2 with ⟨e', e2⟩ | ⟨g, cap', cur, e', _⟩
      · simp at e'; omega
      · rw [e] at e'; simp at e'
    · subst hb
      rcases hR.1.2 with ⟨e', _⟩ | ⟨g, cap', cur, e', _, q2, _, _, _, q6⟩
      · simp at e'
      · simp at e'
        obtain ⟨rfl, rfl⟩ := e'
        have hadd : (⟨g, 0, none⟩ : Addr).add j = ⟨g, j, none⟩ := by unfold Addr.add; split <;> simp_all
        have hb : Blk w g cur 68 := q2
        rw [hadd, hb.cell]
        have hj : j < n * 4 := by have := (List.getElem?_eq_some_iff.1 hu).1; rw [marks_length] at this; exact this
        rw [(take_marks.1 q6).2 j hj, ← marks_get i n j hj]
        exact hu
    · rw [marks_add] at h1
      obtain ⟨g, cap', rfl, g1, g2⟩ := h1.form (by omega)
      have hbl : Below w.heap.size w w' := ⟨h2.os, h2.tape, h2.output, h2.size, fun k hk => h2.block k hk (by simp)⟩
      refine hK _ _ (lay L g lab) ⟨?_, fun q hq => ?_⟩ (fun u k hu => hu.keep (Step.of_below' (p := fun _ => False) hbl (fun q hq => lay_other _ _ (by omega))) (fun h => h)) (Step.of_below' hbl (fun q hq => lay_other _ _ (by omega)))
      · refine ⟨h1.1, ?_⟩
        rcases h1.2 with ⟨e, _⟩ | ⟨q, c', cur, q1, _, q3⟩
        · cases e
        · exact Or.inr ⟨q, c', cur, q1, Nat.zero_le _, q3⟩
      · obtain rfl : g = q := by simpa [Value.ownBlock] using hq
        exact lay_same _ _ _

set_option maxRecDepth 100000 in
set_option maxHeartbeats 1000000 in
theorem markSend_any (i : Nat) (w : World) (hi : i ≤ 8000000) : Calls Tryz.prog 56 #[.int .i64 (i : Int)] w fun e w' => e = .returned (.agg #[.int .i64 (-1000 - (i : Int)), .int .i64 0, encStr callers, .string ⟨#[]⟩]) ∧ Below w.heap.size w w' := by
  go_enter Tryz.func56, Tryz.ntmps56
  go_wp2_with fail
  exact bodyPost_ret (v := .agg #[.int .i64 (-1000 - (i : Int)), .int .i64 0, encStr callers, .string ⟨#[]⟩]) (results_cell1 Tryz.results56 rfl (run_loadVar_mid _ _ 0 68 [.int .i64 (-1000 - (i : Int)), .int .i64 0, encStr callers, .string ⟨#[]⟩] _ (Blk.range (Blk.new w _ _) 0 _ rfl) Tryz.underlying68 rfl sizeSendM)) rfl ⟨rfl, (Below.refl _ _).alloc (Nat.le_refl _) _⟩
end Go.Proofs.YtojpjaifhjigfaaGreatDoor

/- (*Book).keepSends: a list of sends is written full by its owner, and kept. -/
namespace Go.Proofs.YtojpjaifhjigfaaGreatDoor
open Go.RowKit Go.Maps

theorem infoSendsM : (Tryz.prog.info? 65).map (fun i => (i.zero, i.size, i.bytes)) = some (some (.slice none 0 0), 1, 24) := by kernel_rfl
/-- The sends that came out: n lists, each with the mark of its number. -/
def SendsAt (w : World) (L : Labs) (v : Value) (n : Nat) : Prop :=
  ∃ ls, RowAt w L (bl 5 0) 65 1 v n ls ∧ ∀ (i : Nat) (u : Value), ls[i]? = some u → ∃ len, len ≤ 1000 ∧ RowAt w L (bl 6 (i / 4)) 68 4 u len (marks (i / 4) len)
theorem SendsAt.keep {w w' : World} {L L' : Labs} {v : Value} {n : Nat} (h : SendsAt w L v n) {p : Lab → Prop} (s : Step p L w L' w') (h1 : ¬ p (bl 5 0)) (h0 : ∀ i, i < n → ¬ p (bl 6 (i / 4))) : SendsAt w' L' v n := by
  obtain ⟨ls, q1, q2⟩ := h
  refine ⟨ls, q1.keep s h1, fun i u hu => ?_⟩
  obtain ⟨len, hl, q3⟩ := q2 i u hu
  have hi : i < n := by
    have := (List.getElem?_eq_some_iff.1 hu).1
    have e := q1.1.1
    omega
  exact ⟨len, hl, q3.keep s (h0 i hi)⟩
theorem SendsAt.nil (w : World) (L : Labs) : SendsAt w L (.slice none 0 0) 0 := ⟨[], RowAt.nil _ _ _ _ _, fun i u hu => by simp at hu⟩
/-- What keepSends may turn. -/
def ksP (k : Nat) : Lab → Prop := fun l => l = bl 6 k ∨ l = bl 5 0 ∨ l = bl 2 0

theorem news_marks {w : World} {B i m : Nat} {cs : Array Value} (hb : w.heap[B]? = some (.cells cs 68 (0, 0))) (hcs : cs.toList = marks i m) : ∀ j u, (marks i m)[j]? = some u → w.cell? ((⟨B, 0, none⟩ : Addr).add j) = some u := by
  rw [← hcs]
  exact World.news_of_block hb

theorem marks_set4 {ys : List Value} {i k : Nat} (hl : k * 4 + 4 ≤ ys.length) (h : ys.take (k * 4) = marks i k) :
    ((((ys.set (k * 4) (.int .i64 (-1000 - (i : Int)))).set (k * 4 + 1) (.int .i64 0)).set (k * 4 + 2) (encStr callers)).set (k * 4 + 3) (.string ⟨#[]⟩)).take ((k + 1) * 4) = marks i (k + 1) := by
  rw [marks_succ, ← h]
  apply List.ext_getElem?
  intro j
  have hyl : (ys.take (k * 4)).length = k * 4 := by rw [List.length_take]; omega
  by_cases h1 : j < k * 4
  · rw [List.getElem?_take_of_lt (by omega), List.getElem?_set_ne (by omega), List.getElem?_set_ne (by omega), List.getElem?_set_ne (by omega), List.getElem?_set_ne (by omega), List.getElem?_append_left (by omega), List.getElem?_take_of_lt h1]
  · rw [List.getElem?_append_right (by omega), hyl]
    by_cases h2 : j < (k + 1) * 4
    · rw [List.getElem?_take_of_lt h2]
      obtain ⟨r, rfl⟩ : ∃ r, j = k * 4 + r := ⟨j - k * 4, by omega⟩
      have hr : r < 4 := by omega
      rw [show k * 4 + r - k * 4 = r by omega]
      match r, hr with
      | 0, _ =>
        rw [List.getElem?_set_ne (by omega), List.getElem?_set_ne (by omega), List.getElem?_set_ne (by omega)]
        simp only [Nat.add_zero]
        rw [List.getElem?_set_self (by omega)]
        rfl
      | 1, _ =>
        rw [List.getElem?_set_ne (by omega), List.getElem?_set_ne (by omega), List.getElem?_set_self (by simp; omega)]
        rfl
      | 2, _ =>
        rw [List.getElem?_set_ne (by omega), List.getElem?_set_self (by simp; omega)]
        rfl
      | 3, _ =>
        rw [List.getElem?_set_self (by simp; omega)]
        rfl
    · rw [List.getElem?_eq_none (by rw [List.length_take]; omega), List.getElem?_eq_none (by rw [sendMark_length]; omega)]

set_option maxRecDepth 100000 in
set_option maxHeartbeats 4000000 in
theorem keepSends_any (L : Labs) (gw n : Nat) (ao : Option Addr) (len cap0 : Nat) (tv : Value) (xs : List Value) (cur : Array Value) (w : World) (hK : BlkAt w L (bl 2 0) gw cur 38) (hc : cur[24]? = some tv) (hT : SendsAt w L tv n) (h4 : n % 4 = 0) (hn : n ≤ 8000000) (hlen : len ≤ 100)
    (hl : RowAt w L (bl 6 (n / 4)) 68 4 (.slice ao len cap0) len xs) :
    Calls Tryz.prog 89 #[.pointer (some ⟨gw, 23, none⟩), .slice ao len cap0] w fun e w' => e = .returned (.tuple #[]) ∧ ∃ L' tv', BlkAt w' L' (bl 2 0) gw (cur.setIfInBounds 24 tv') 38 ∧ SendsAt w' L' tv' (n + 4) ∧ Step (ksP (n / 4)) L w L' w' := by
  obtain ⟨ls, hR, hls⟩ := hT
  obtain ⟨ta, tk, rfl, _⟩ := hR.shape
  have a24 : w.cell? ⟨gw, 24, none⟩ = some (.slice ta n tk) := (hK.1.cell 24).trans hc
  have hgw := hK.1.lt
  have HK := hide hK
  have HR := hide hR
  have HL := hide hls
  have HC := hide hc
  have HB := hide hl
  have hxl : xs.length = len * 4 := hl.1.1
  clear hK hR hls hc hl
  go_enter Tryz.func89, Tryz.ntmps89
  go_wp2_with fail
  rw [show ((n : Int) / 4) = ((n / 4 : Nat) : Int) from by omega]
  refine (markSend_any (n / 4) _ (by omega)).mono ?_
  rintro e w1 ⟨rfl, hb1⟩
  generalize hm : n / 4 = M at *
  have Hm := hide hm
  have hw1 : w.heap.size ≤ w1.heap.size := hb1.size
  have HB1 := hide hb1
  clear hm hb1 a24
  go_wp2_with fail
  generalize hW : World.alloc w1 _ = W
  have hgm : Blk W w1.heap.size (sendMark M).toArray 68 := by rw [← hW]; exact Blk.new w1 _ _
  have hbW : Below w.heap.size w W := by rw [← hW]; exact HB1.out.alloc hw1 _
  obtain ⟨L1, HL1⟩ : ∃ L1, Hid (L1 = lay L w1.heap.size none) := ⟨_, rfl⟩
  have hst0 : ∀ p, Step p L w L1 W := fun p => Step.of_below' hbW (fun q hq => by rw [HL1.out, lay_other _ _ (by omega)])
  have HgmW : Hid (BlkAt W L1 none w1.heap.size (sendMark M).toArray 68) := ⟨hgm, by rw [HL1.out, lay_same]⟩
  have HS1 : Hid (Step (fun l => l = bl 6 M) L w L1 W) := hst0 _
  have HBW : Hid (RowAt W L1 (bl 6 M) 68 4 (.slice ao len cap0) len xs) := HB.out.keep (hst0 (fun _ => False)) (fun h => h)
  have hglt : ∀ q, (Value.slice ao len cap0).ownBlock = some q → q < w.heap.size := fun q hq => (HB.out.1.lt q hq).2
  have Hglt := hide hglt
  generalize hgg : w1.heap.size = gm at *
  clear hgm hbW hW hgg hglt HB1 hst0 HL1
  go_loopw [5] (fun i wr => ∃ (k : Nat) (ys : List Value), k ≤ len ∧ i = .int .i64 k ∧ RowAt wr L1 (bl 6 M) 68 4 (.slice ao len cap0) len ys ∧ ys.take (k * 4) = marks M k ∧ BlkAt wr L1 none gm (sendMark M).toArray 68 ∧ Step (fun l => l = bl 6 M) L w L1 wr) (fun i _ => len - (intOf i).toNat)
  case atStart => exact ⟨0, xs, Nat.zero_le _, rfl, HBW.out, rfl, HgmW.out, HS1.out⟩
  case round =>
    obtain ⟨k, ys, hk, rfl, hr, hy, hgm, hst⟩ := hrel
    have Hr := hide hr
    have Hy := hide hy
    have Hst := hide hst
    have Hgm := hide hgm
    have m0 : wr.cell? ⟨gm, 0, none⟩ = some (.int .i64 (-1000 - (M : Int))) := hgm.1.cell 0
    have m1 : wr.cell? ⟨gm, 1, none⟩ = some (.int .i64 0) := hgm.1.cell 1
    have m2 : wr.cell? ⟨gm, 2, none⟩ = some (encStr callers) := hgm.1.cell 2
    have m3 : wr.cell? ⟨gm, 3, none⟩ = some (.string ⟨#[]⟩) := hgm.1.cell 3
    clear hr hy hst hgm
    by_cases hlt : k < len
    · have hltI : (k : Int) < (len : Int) := by omega
      have hyl : ys.length = len * 4 := Hr.out.1.1
      obtain ⟨gl, e', hg', hlab, hcell, hfz⟩ := Hr.out.head (by omega)
      subst e'
      have c0 := hcell (k * 4) _ (List.getElem?_eq_getElem (by omega : k * 4 < ys.length))
      have c1 := hcell (k * 4 + 1) _ (List.getElem?_eq_getElem (by omega : k * 4 + 1 < ys.length))
      have c2 := hcell (k * 4 + 2) _ (List.getElem?_eq_getElem (by omega : k * 4 + 2 < ys.length))
      have c3 := hcell (k * 4 + 3) _ (List.getElem?_eq_getElem (by omega : k * 4 + 3 < ys.length))
      have f0 := hfz (k * 4)
      have f1 := hfz (k * 4 + 1)
      have f2 := hfz (k * 4 + 2)
      have f3 := hfz (k * 4 + 3)
      have hglw := Hglt.out gl (by simp [Value.ownBlock])
      have hne : gm ≠ gl := by omega
      have Hlab := hide hlab
      clear hcell hfz hlab
      go_wp2_with fail
      go_roundw
      case rel =>
        refine ⟨k + 1, _, by omega, by go_num, (((Hr.out.set (k * 4) _).set (k * 4 + 1) _).set (k * 4 + 2) _).set (k * 4 + 3) _, marks_set4 (by omega) Hy.out, ⟨(((Hgm.out.1.other _ _ hne).other _ _ hne).other _ _ hne).other _ _ hne, Hgm.out.2⟩, Hst.out.trans ((((Step.setCell L1 wr ⟨gl, k * 4, none⟩ _ Hlab.out).trans (Step.setCell L1 _ ⟨gl, k * 4 + 1, none⟩ _ Hlab.out)).trans (Step.setCell L1 _ ⟨gl, k * 4 + 2, none⟩ _ Hlab.out)).trans (Step.setCell L1 _ ⟨gl, k * 4 + 3, none⟩ _ Hlab.out))⟩
      case measure => simp [intOf]; omega
    · have ek : k = len := by omega
      subst ek
      have hyl : ys.length = k * 4 := Hr.out.1.1
      have hys : ys = marks M k := by rw [← Hy.out, List.take_of_length_le (by omega)]
      subst hys
      have HR0 : Hid (RowAt wr L1 (bl 6 M) 68 4 (.slice ao k cap0) k (marks M k)) := Hr.out
      have hwr : w.heap.size ≤ wr.heap.size := Hst.out.size
      clear Hr Hy HBW HB
      go_upto_region 6 with (first
        | (at_builtin; refine wpList_append_marks _ rfl _ _ rfl L1 (bl 6 M) M ao k cap0 rfl (HR0.out.keep (Step.alloc (p := fun _ => False) L1 wr _) (fun h => h)) ⟨wr.heap.size, 0, none⟩ 1 1 rfl (news_marks (heap_alloc_new wr _) (by rfl)) (by decide) (by omega) ?_; intro v10 w10 L10 hr hall hs; obtain ⟨a10, c10, rfl, _⟩ := hr.shape; have HG10 : Hid (BlkAt w10 L10 none gm (sendMark M).toArray 68) := (Hgm.out.keep (Step.alloc (p := fun _ => False) L1 wr _) (fun h => h)).keep hs (by simp [bl]); have m0 := HG10.out.1.cell 0; have m1 := HG10.out.1.cell 1; have m2 := HG10.out.1.cell 2; have m3 := HG10.out.1.cell 3; simp only [sendMark, List.getElem?_toArray, List.getElem?_cons_zero, List.getElem?_cons_succ] at m0 m1 m2 m3; have Hr10 := hide hr; have Ha10 := hide hall; have Hs10 : Hid (Step (fun l => l = bl 6 M) L1 wr L10 w10) := (Step.alloc L1 wr _).trans hs; clear hr hall hs)
        | fail)
      have HR1 : Hid (RowAt w10 L10 (bl 6 M) 68 4 (.slice ao k cap0) k (marks M k)) := Ha10.out _ _ (HR0.out.keep (Step.alloc (p := fun _ => False) L1 wr _) (fun h => h))
      clear HR0
      go_upto_region 7 with (first
        | (at_builtin; refine wpList_append_marks _ rfl _ _ rfl L10 (bl 6 M) M ao k cap0 rfl (HR1.out.keep (Step.alloc (p := fun _ => False) L10 w10 _) (fun h => h)) ⟨w10.heap.size, 0, none⟩ 2 2 rfl (news_marks (heap_alloc_new w10 _) (by rfl)) (by decide) (by omega) ?_; intro v20 w20 L20 hr hall hs; obtain ⟨a20, c20, rfl, _⟩ := hr.shape; have HG20 : Hid (BlkAt w20 L20 none gm (sendMark M).toArray 68) := (HG10.out.keep (Step.alloc (p := fun _ => False) L10 w10 _) (fun h => h)).keep hs (by simp [bl]); have m0 := HG20.out.1.cell 0; have m1 := HG20.out.1.cell 1; have m2 := HG20.out.1.cell 2; have m3 := HG20.out.1.cell 3; simp only [sendMark, List.getElem?_toArray, List.getElem?_cons_zero, List.getElem?_cons_succ] at m0 m1 m2 m3; have Hr20 := hide hr; have Ha20 := hide hall; have Hs20 : Hid (Step (fun l => l = bl 6 M) L10 w10 L20 w20) := (Step.alloc L10 w10 _).trans hs; clear hr hall hs)
        | fail)
      have HR2 : Hid (RowAt w20 L20 (bl 6 M) 68 4 (.slice ao k cap0) k (marks M k)) := Ha20.out _ _ (HR1.out.keep (Step.alloc (p := fun _ => False) L10 w10 _) (fun h => h))
      have HQ11 : Hid (RowAt w20 L20 (bl 6 M) 68 4 (.slice a10 (k + 1) c10) (k + 1) (marks M (k + 1))) := Ha20.out _ _ (Hr10.out.keep (Step.alloc (p := fun _ => False) L10 w10 _) (fun h => h))
      clear HR1
      go_upto_region 8 with (first
        | (at_builtin; refine wpList_append_marks _ rfl _ _ rfl L20 (bl 6 M) M ao k cap0 rfl (HR2.out.keep (Step.alloc (p := fun _ => False) L20 w20 _) (fun h => h)) ⟨w20.heap.size, 0, none⟩ 3 3 rfl (news_marks (heap_alloc_new w20 _) (by rfl)) (by decide) (by omega) ?_; intro v30 w30 L30 hr hall hs; obtain ⟨a30, c30, rfl, _⟩ := hr.shape; have HG30 : Hid (BlkAt w30 L30 none gm (sendMark M).toArray 68) := (HG20.out.keep (Step.alloc (p := fun _ => False) L20 w20 _) (fun h => h)).keep hs (by simp [bl]); have m0 := HG30.out.1.cell 0; have m1 := HG30.out.1.cell 1; have m2 := HG30.out.1.cell 2; have m3 := HG30.out.1.cell 3; simp only [sendMark, List.getElem?_toArray, List.getElem?_cons_zero, List.getElem?_cons_succ] at m0 m1 m2 m3; have Hr30 := hide hr; have Ha30 := hide hall; have Hs30 : Hid (Step (fun l => l = bl 6 M) L20 w20 L30 w30) := (Step.alloc L20 w20 _).trans hs; clear hr hall hs)
        | fail)
      have HQ0 : Hid (RowAt w30 L30 (bl 6 M) 68 4 (.slice ao k cap0) k (marks M k)) := Ha30.out _ _ (HR2.out.keep (Step.alloc (p := fun _ => False) L20 w20 _) (fun h => h))
      have HQ1 : Hid (RowAt w30 L30 (bl 6 M) 68 4 (.slice a10 (k + 1) c10) (k + 1) (marks M (k + 1))) := Ha30.out _ _ (HQ11.out.keep (Step.alloc (p := fun _ => False) L20 w20 _) (fun h => h))
      have HQ2 : Hid (RowAt w30 L30 (bl 6 M) 68 4 (.slice a20 (k + 2) c20) (k + 2) (marks M (k + 2))) := Ha30.out _ _ (Hr20.out.keep (Step.alloc (p := fun _ => False) L20 w20 _) (fun h => h))
      have HQ3 := Hr30
      have HS0 : Hid (Step (fun l => l = bl 6 M) L w L30 w30) := ((Hst.out.trans Hs10.out).trans Hs20.out).trans Hs30.out
      have hk30 : BlkAt w30 L30 (bl 2 0) gw cur 38 := HK.out.keep HS0.out (by simp [bl])
      have hr30 : RowAt w30 L30 (bl 5 0) 65 1 (.slice ta n tk) n ls := HR.out.keep HS0.out (by simp [bl])
      have HKW := hide hk30
      have HRW := hide hr30
      have a24 : w30.cell? ⟨gw, 24, none⟩ = some (.slice ta n tk) := (hk30.1.cell 24).trans HC.out
      have hgw30 := hk30.1.lt
      obtain ⟨i2, hi2, ho0, ho1, ho2⟩ := info_parts infoSendsM
      clear hk30 hr30 HR2 HQ11 Hr10 Hr20 Ha10 Ha20 Ha30 Hs10 Hs20 Hs30 m0 m1 m2 m3
      go_wp2_with (first
        | (at_builtin; refine wpList_append_lies _ rfl _ _ 33 rfl 0 65 i2 (.slice none 0 0) 1 24 Tryz.underlying33 hi2 ho0 ho1 ho2 rfl (by decide) _ _ _ rfl (HRW.out.1.alloc _) ⟨w30.heap.size, 0, none⟩ 4 4 [.slice ao k cap0, .slice a10 (k + 1) c10, .slice a20 (k + 2) c20, .slice a30 (k + 3) c30] rfl rfl (World.news_of_block (cs := #[.slice ao k cap0, .slice a10 (k + 1) c10, .slice a20 (k + 2) c20, .slice a30 (k + 3) c30]) (t := 65) (fr := (0, 0)) (heap_alloc_new w30 _)) (by simp [Value.oneCell']) (by decide) (by unfold maxLen; omega) (by omega) (Nat.zero_le _) (w30.heap.size + 1) (by simp) ?_; intro gg cap w9 hown9 hg9 hat9 hlt9; have hK9 := Blk.grown (HKW.out.1.alloc _) hg9 (fun e => by have := HRW.out.2 gw e.symm; rw [HKW.out.2] at this; simp [bl] at this); have c24 := (hK9.cell 24).trans HC.out; have d24 := hK9.frozen 24; have HK9 := hide hK9; have HO9 := hide hown9; have HG9 := hide hg9; have HAt9 := hide hat9; clear hK9 hown9 hg9 hat9)
        | fail)
      go_end0
      have hat : (Value.slice ta n tk).ownBlock = some gg ∨ w30.heap.size + 1 ≤ gg := HAt9.out.imp id (fun e => by omega)
      obtain ⟨hrow, hlab⟩ := RowAt.appended (w0 := w30.alloc (.cells #[.slice ao k cap0, .slice a10 (k + 1) c10, .slice a20 (k + 2) c20, .slice a30 (k + 3) c30] 65)) (HRW.out.keep (Step.alloc (p := fun _ => False) L30 w30 _) (fun h => h)) HO9.out (by simpa using hat)
      have hSa : Step (fun l => l = bl 5 0 ∨ l = bl 2 0) L30 w30 (lay L30 gg (bl 5 0)) w9 := (Step.alloc L30 w30 _).trans (Step.of_grown HG9.out (fun j hj => Or.inl (HRW.out.2 j hj)) hlab)
      have hgl9 : lay L30 gg (bl 5 0) gw = bl 2 0 := (hlab gw (by simp; omega)).trans HKW.out.2
      have hS2 : Step (fun l => l = bl 5 0 ∨ l = bl 2 0) L30 w30 (lay L30 gg (bl 5 0)) (w9.setCell ⟨gw, 24, none⟩ (.slice (some ⟨gg, 0, none⟩) (n + 4) cap)) := hSa.trans (Step.setCell _ w9 ⟨gw, 24, none⟩ _ (Or.inr hgl9))
      rw [Hm.out]
      refine ⟨rfl, lay L30 gg (bl 5 0), _, ⟨HK9.out.set 24 _, hgl9⟩, ⟨_, hrow.keep (Step.setCell (p := fun l => l = bl 2 0) _ w9 ⟨gw, 24, none⟩ _ hgl9) (by simp [bl]), fun i u hu => ?_⟩, (HS0.out.mono (fun l h => Or.inl h)).trans (hS2.mono (fun l h => Or.inr h))⟩
      have hll : ls.length = n := by have := HR.out.1.1; omega
      have hMe := Hm.out
      by_cases hil : i < ls.length
      · rw [List.getElem?_append_left hil] at hu
        obtain ⟨len', hl', q⟩ := HL.out i u hu
        exact ⟨len', hl', (q.keep HS0.out (by simp [bl]; omega)).keep hS2 (by simp [bl])⟩
      · rw [List.getElem?_append_right (by omega)] at hu
        obtain ⟨j, rfl⟩ : ∃ j, i = ls.length + j := ⟨i - ls.length, by omega⟩
        simp only [Nat.add_sub_cancel_left] at hu
        have hj4 : j < 4 := by
          have := (List.getElem?_eq_some_iff.1 hu).1
          simpa using this
        have hdiv : (ls.length + j) / 4 = M := by omega
        rw [hdiv]
        match j, hj4 with
        | 0, _ => simp at hu; subst hu; exact ⟨k, by omega, HQ0.out.keep hS2 (by simp [bl])⟩
        | 1, _ => simp at hu; subst hu; exact ⟨k + 1, by omega, HQ1.out.keep hS2 (by simp [bl])⟩
        | 2, _ => simp at hu; subst hu; exact ⟨k + 2, by omega, HQ2.out.keep hS2 (by simp [bl])⟩
        | 3, _ => simp at hu; subst hu; exact ⟨k + 3, by omega, HQ3.out.keep hS2 (by simp [bl])⟩
end Go.Proofs.YtojpjaifhjigfaaGreatDoor

/- whole: every list and map that came out is as its owner wrote it; sends too. -/
namespace Go.Proofs.YtojpjaifhjigfaaGreatDoor
open Go.RowKit Go.Maps

set_option maxRecDepth 100000 in
set_option maxHeartbeats 2000000 in
theorem wholeS_any (L : Labs) (gw n ns k : Nat) (tv sv mv : Value) (cur : Array Value) (w : World) (hK : BlkAt w L (bl 2 0) gw cur 38) (h23 : cur[23]? = some tv) (h24 : cur[24]? = some sv) (h25 : cur[25]? = some mv) (hT : TextsAt w L tv n) (hS : SendsAt w L sv ns) (hM : MapsAt w L mv k) (hn : n ≤ 8000000) (hns : ns ≤ 8000000) (hk : k ≤ 8000000) :
    Calls Tryz.prog 19 #[.pointer (some ⟨gw, 23, none⟩)] w fun e w' => e = .returned (.bool true) ∧ Below w.heap.size w w' := by
  obtain ⟨ls, hr, hls⟩ := hT
  obtain ⟨ms, hmr, hms⟩ := hM
  obtain ⟨ss, hsr, hss⟩ := hS
  obtain ⟨sa, sk, rfl, _⟩ := hsr.shape
  obtain ⟨ta, tk, rfl, _⟩ := hr.shape
  obtain ⟨ma, mk, rfl, _⟩ := hmr.shape
  have hgw := hK.1.lt
  have C23 : Hid (w.cell? ⟨gw, 23, none⟩ = some (.slice ta n tk)) := (hK.1.cell 23).trans h23
  have C24 : Hid (w.cell? ⟨gw, 24, none⟩ = some (.slice sa ns sk)) := (hK.1.cell 24).trans h24
  have C25 : Hid (w.cell? ⟨gw, 25, none⟩ = some (.slice ma k mk)) := (hK.1.cell 25).trans h25
  have hll : ls.length = n := by have := hr.1.1; omega
  have hml : ms.length = k := by have := hmr.1.1; omega
  have HR := hide hr
  have HL := hide hls
  have HMR := hide hmr
  have hsl : ss.length = ns := by have := hsr.1.1; omega
  have HSR := hide hsr
  have HSS := hide hss
  have HM := hide hms
  have hkc := keyCallers
  clear hr hls hmr hms hsr hss hK h23 h24 h25
  go_enter Tryz.func19, Tryz.ntmps19
  go_wp2_with fail
  go_loopw [3] (fun i wr => ∃ j : Nat, j ≤ n ∧ i = .int .i64 j ∧ Below w.heap.size w wr) (fun i _ => n - (intOf i).toNat)
  case atStart => exact ⟨0, Nat.zero_le _, rfl, Below.refl _ _⟩
  case round =>
    obtain ⟨j, hj, rfl, hnx⟩ := hrel
    have Hnx := hide hnx
    by_cases hlt : j < n
    · have hltI : (j : Int) < (n : Int) := by omega
      have d23 : wr.cell? ⟨gw, 23, none⟩ = some (.slice ta n tk) := (hnx.cell (p := ⟨gw, 23, none⟩) hgw).trans C23.out
      obtain ⟨gt, rfl, hgt, _, hcell, _⟩ := HR.out.head (by omega)
      obtain ⟨v, hv⟩ : ∃ v, ls[j]? = some v := ⟨_, List.getElem?_eq_getElem (by omega)⟩
      obtain ⟨len, hT⟩ := HL.out j v hv
      obtain ⟨va, vc, rfl, hmx⟩ := hT.shape
      have hlenI : (len : Int) ≤ 9223372036854775807 := by unfold maxLen at hmx; omega
      have Hcv := hide (hcell j _ hv)
      have HT := hide hT
      clear hcell hv hT hnx
      go_wp2_with fail
      rw [show ((j : Int) / 4) = ((j / 4 : Nat) : Int) from by omega]
      refine (mark_any (j / 4) _ (by omega)).mono ?_
      rintro e w1 ⟨rfl, hb1⟩
      have Hb1 : Hid (Below w.heap.size w w1) := Hnx.out.trans (hb1.mono Hnx.out.size)
      clear hb1 d23
      generalize hm : mkB (j / 4) = m at *
      have Hm := hide hm
      clear hm
      go_wp2_with fail
      have d23 : w1.cell? ⟨gw, 23, none⟩ = some (.slice (some ⟨gt, 0, none⟩) n tk) := (Hb1.out.cell (p := ⟨gw, 23, none⟩) hgw).trans C23.out
      have dk : w1.cell? ⟨gt, j, none⟩ = some (.slice va len vc) := (Hb1.out.cell (p := ⟨gt, j, none⟩) hgt).trans Hcv.out
      go_loop [5] (fun q => ∃ t : Nat, t ≤ len ∧ q = .int .i64 t) (fun q => len - (intOf q).toNat)
      case atStart => exact ⟨0, Nat.zero_le _, rfl⟩
      case round =>
        obtain ⟨t, ht, rfl⟩ := hrel
        by_cases htl : t < len
        · have htI : (t : Int) < (len : Int) := by omega
          obtain ⟨gv, rfl, hgv, _, hcv, _⟩ := HT.out.head (by omega)
          have de : w1.cell? ⟨gv, t, none⟩ = some (encStr m) := (Hb1.out.cell (p := ⟨gv, t, none⟩) hgv).trans (hcv t _ (by rw [List.getElem?_replicate, if_pos htl]))
          clear hcv
          go_wp2_with fail
          go_round
          case rel => exact ⟨t + 1, by omega, by go_num⟩
          case measure => simp [intOf]; omega
        · go_wp2_with fail
          go_roundw
          case rel => exact ⟨j + 1, by omega, by go_num, Hb1.out⟩
          case measure => simp [intOf]; omega
    · have d23 : wr.cell? ⟨gw, 23, none⟩ = some (.slice ta n tk) := (hnx.cell (p := ⟨gw, 23, none⟩) hgw).trans C23.out
      have hjn : n = j := by omega
      subst hjn
      clear hnx
      go_wp2_with fail
      go_loopw [6] (fun i wq => ∃ s : Nat, s ≤ ns ∧ i = .int .i64 s ∧ Below w.heap.size w wq) (fun i _ => ns - (intOf i).toNat)
      case atStart => exact ⟨0, Nat.zero_le _, rfl, Hnx.out⟩
      case round =>
        obtain ⟨s, hs, rfl, hnx2⟩ := hrel
        have Hnx2 := hide hnx2
        clear d23
        have d24 : wr.cell? ⟨gw, 24, none⟩ = some (.slice sa ns sk) := (hnx2.cell (p := ⟨gw, 24, none⟩) hgw).trans C24.out
        by_cases hslt : s < ns
        · have hsI : (s : Int) < (ns : Int) := by omega
          obtain ⟨gs, rfl, hgs, _, hcell, _⟩ := HSR.out.head (by omega)
          obtain ⟨v, hv⟩ : ∃ v, ss[s]? = some v := ⟨_, List.getElem?_eq_getElem (by omega)⟩
          obtain ⟨len, hl1000, hT⟩ := HSS.out s v hv
          obtain ⟨va, vc, rfl, hmx⟩ := hT.shape
          have Hcv := hide (hcell s _ hv)
          have HT := hide hT
          have hMk := fun w => markSend_any (s / 4) w (by omega)
          rw [show (((s / 4 : Nat)) : Int) = (s : Int) / 4 from by omega] at hMk
          have HMk := hide hMk
          have HWr : Hid (IntKind.i64.wrap ((s : Int) / 4) = (s : Int) / 4) := IntWalk.i64_in _ (by omega)
          clear hcell hv hT hnx2 hMk
          go_wp2_with fail
          go_loopw [7] (fun q wq => ∃ t : Nat, t ≤ len ∧ q = .int .i64 t ∧ Below w.heap.size w wq) (fun q _ => len - (intOf q).toNat)
          case atStart => exact ⟨0, Nat.zero_le _, rfl, Hnx2.out⟩
          case round =>
            obtain ⟨t, ht, rfl, hnx3⟩ := hrel
            have Hnx3 := hide hnx3
            clear d24
            have d24 : wr.cell? ⟨gw, 24, none⟩ = some (.slice (some ⟨gs, 0, none⟩) ns sk) := (hnx3.cell (p := ⟨gw, 24, none⟩) hgw).trans C24.out
            have dk : wr.cell? ⟨gs, s, none⟩ = some (.slice va len vc) := (hnx3.cell (p := ⟨gs, s, none⟩) hgs).trans Hcv.out
            clear hnx3
            by_cases htl : t < len
            · have htI : (t : Int) < (len : Int) := by omega
              obtain ⟨gv, rfl, hgv, _, hcv, _⟩ := HT.out.head (by omega)
              have hmk := fun j (hj : j < 4) => marks_get (s / 4) len (t * 4 + j) (by omega)
              have HCell : Hid (∀ w', Below w.heap.size w w' → w'.cell? ⟨gw, 24, none⟩ = some (.slice (some ⟨gs, 0, none⟩) ns sk) ∧ w'.cell? ⟨gs, s, none⟩ = some (.slice (some ⟨gv, 0, none⟩) len vc) ∧ w'.cell? ⟨gv, t * 4, none⟩ = some (.int .i64 (-1000 - (s : Int) / 4)) ∧ w'.cell? ⟨gv, t * 4 + 1, none⟩ = some (.int .i64 0) ∧ w'.cell? ⟨gv, t * 4 + 2, none⟩ = some (encStr callers) ∧ w'.cell? ⟨gv, t * 4 + 3, none⟩ = some (.string ⟨#[]⟩)) := fun w' hb => by
                refine ⟨(hb.cell (p := ⟨gw, 24, none⟩) hgw).trans C24.out, (hb.cell (p := ⟨gs, s, none⟩) hgs).trans Hcv.out, ?_, ?_, ?_, ?_⟩
                · rw [hb.cell (p := ⟨gv, _, none⟩) hgv]; exact hcv _ _ (by have := hmk 0 (by omega); rw [show (t * 4 + 0) % 4 = 0 by omega] at this; rw [show (s : Int) / 4 = ((s / 4 : Nat) : Int) from by omega]; exact this)
                · rw [hb.cell (p := ⟨gv, _, none⟩) hgv]; exact hcv _ _ (by have := hmk 1 (by omega); rw [show (t * 4 + 1) % 4 = 1 by omega] at this; exact this)
                · rw [hb.cell (p := ⟨gv, _, none⟩) hgv]; exact hcv _ _ (by have := hmk 2 (by omega); rw [show (t * 4 + 2) % 4 = 2 by omega] at this; exact this)
                · rw [hb.cell (p := ⟨gv, _, none⟩) hgv]; exact hcv _ _ (by have := hmk 3 (by omega); rw [show (t * 4 + 3) % 4 = 3 by omega] at this; exact this)
              obtain ⟨y1, y2, y3, y4, y5, y6⟩ := HCell.out wr Hnx3.out
              clear hcv hmk d24 dk
              go_upto_region 16 with fail
              go_region_held3 (fun w' => w'.cell? ⟨gw, 24, none⟩ = some (.slice (some ⟨gs, 0, none⟩) ns sk) ∧ w'.cell? ⟨gs, s, none⟩ = some (.slice (some ⟨gv, 0, none⟩) len vc) ∧ w'.cell? ⟨gv, t * 4, none⟩ = some (.int .i64 (-1000 - (s : Int) / 4)) ∧ w'.cell? ⟨gv, t * 4 + 1, none⟩ = some (.int .i64 0) ∧ w'.cell? ⟨gv, t * 4 + 2, none⟩ = some (encStr callers) ∧ w'.cell? ⟨gv, t * 4 + 3, none⟩ = some (.string ⟨#[]⟩)) (go_keep)
                (first | (go_at_call 56; rw [HWr.out]; refine (HMk.out _).mono ?_; rintro e w2 ⟨rfl, hb2⟩; have hB2 : Below w.heap.size w w2 := Hnx3.out.drew.trans (hb2.mono (by have := Hnx3.out.size; simpa using this)); have HB2 := hide hB2; obtain ⟨z1, z2, z3, z4, z5, z6⟩ := HCell.out w2 hB2; clear hb2 hB2))
              all_goals
                go_wp2_with fail
                go_roundw
                case rel => exact ⟨t + 1, by omega, by go_num, HB2.out⟩
                case measure => simp [intOf]; omega
            · go_wp2_with fail
              go_roundw
              case rel => exact ⟨s + 1, by omega, by go_num, Hnx3.out⟩
              case measure => simp [intOf]; omega
        · have d25 : wr.cell? ⟨gw, 25, none⟩ = some (.slice ma k mk) := (hnx2.cell (p := ⟨gw, 25, none⟩) hgw).trans C25.out
          clear hnx2 Hnx
          have Hnx := Hnx2
          go_wp2_with fail
          go_loop [8, 9, 10] (fun q _ _ => ∃ t : Nat, t ≤ k ∧ q = .int .i64 t) (fun q _ _ => k - (intOf q).toNat)
          case atStart => exact ⟨0, Nat.zero_le _, rfl⟩
          case round =>
            obtain ⟨t, ht, rfl⟩ := hrel
            by_cases htl : t < k
            · have htI : (t : Int) < (k : Int) := by omega
              obtain ⟨gm, rfl, hgm, _, hcm, _⟩ := HMR.out.head (by omega)
              obtain ⟨u, hu⟩ : ∃ u, ms[t]? = some u := ⟨_, List.getElem?_eq_getElem (by omega)⟩
              obtain ⟨b, rfl, hO⟩ := HM.out t u hu
              have de : wr.cell? ⟨gm, t, none⟩ = some (.map (some b)) := (Hnx.out.cell (p := ⟨gm, t, none⟩) hgm).trans (hcm t _ hu)
              have hO' := om_below hO.1 Hnx.out hO.1.lt
              have hln := fun ty => hO'.len Tryz.underlying22 ty
              have hs1 : Maps.size (oneMap t) = 1 := rfl
              rw [hs1] at hln
              clear hcm hu hO
              go_wp2_with (first
                | (at_lookup; refine wpList_lookup_own_ok_int _ rfl _ _ 22 rfl 9 3 .i64 lawS Tryz.underlying22 Tryz.underlying3 (zeroInt _) b _ _ rfl hO' _ _ rfl hkc ?_; intro c hat hwc; obtain rfl := oneMap_at hat; rw [show Maps.has (oneMap t) (.string callers) = true from rfl])
                | fail)
              go_round
              case rel => exact ⟨t + 1, by omega, by go_num⟩
              case measure => simp [intOf]; omega
            · go_wp2_with fail
              go_ret
              exact ⟨rfl, Hnx.out⟩
end Go.Proofs.YtojpjaifhjigfaaGreatDoor
