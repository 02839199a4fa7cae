/- What a call tells the log: appendEvent, written, for a batch that is taken. -/
import Derived.Test.YtojpjaifhjigfaaGreatDoorNewAgent
import Derived.Deep.AppendSrc
import Derived.Deep.DeepCutAuto
namespace Go.Proofs.YtojpjaifhjigfaaGreatDoor
open Go.RowKit Go.Maps

/-- A row of bytes. -/
def byts (l : List UInt8) : List Value := l.map fun b => Value.int .u8 b.toNat
theorem byts_append (a b : List UInt8) : byts (a ++ b) = byts a ++ byts b := by simp [byts]
theorem infoByte : (Tryz.prog.info? 5).map (fun i => (i.zero, i.size, i.bytes)) = some (some (.int .u8 0), 1, 1) := by kernel_rfl

/-- append(dst, s...): a text's bytes behind a row of bytes that is the call's own. -/
theorem run_append_text (w : World) (ty : TypeId) (g n cap : Nat) (xs : List UInt8) (s : List UInt8) (hown : w.ownsRow 0 5 1 (.slice (some ⟨g, 0, none⟩) n cap) n (byts xs)) (hn : n + s.length ≤ 1000000) :
    ∃ g' cap' w', (Builtin.append_ #[156, 9] ty #[.slice (some ⟨g, 0, none⟩) n cap, encStr s]).run Tryz.prog w = .ok (.slice (some ⟨g', 0, none⟩) (n + s.length) cap') w' ∧
      w'.ownsRow 0 5 1 (.slice (some ⟨g', 0, none⟩) (n + s.length) cap') (n + s.length) (byts (xs ++ s)) ∧ w.grownBy w' (some g) ∧ (g' = g ∨ g' = w.heap.size) := by
  obtain ⟨i, hi, hz0, hz1, hz2⟩ := info_parts infoByte
  have hsz : (ByteArray.mk s.toArray).size = s.length := by simp [ByteArray.size]
  have hbc : byteCells (ByteArray.mk s.toArray) = byts s := by simp [byteCells, byts]
  have hS : Src Tryz.prog i.size 9 (encStr s) s.length (byts s) w := by
    have := Src.ofString (P := Tryz.prog) w Tryz.underlying9 (ByteArray.mk s.toArray)
    rw [hsz, hbc] at this
    rw [hz1]
    exact this
  have hown' := hown
  rcases hown.2 with ⟨e, _⟩ | ⟨g0, cap0, cur, q1, _, q3, q4, q5, q6, q7⟩
  · cases e
  · simp only [Value.slice.injEq, Option.some.injEq, Addr.mk.injEq, and_true, true_and] at q1
    obtain ⟨rfl, rfl⟩ := q1
    have hB : Blk w g cur 5 := q3
    simp only [Nat.mul_one] at q6 q7
    by_cases hroom : n + s.length ≤ cap
    · have hr := run_append_room_src (P := Tryz.prog) w 156 9 ty 5 i Tryz.underlying156 hi g 0 n cap (encStr s) s.length (byts s) hS hroom
        (fun j hj => by rw [hz1, hB.cell, Array.getElem?_eq_getElem (by simp [byts] at hj; omega)]; rfl) (fun j hj => hB.frozen _)
      rw [hz1, Nat.mul_one, Nat.zero_add] at hr
      refine ⟨g, cap, _, hr, ⟨by simp [byts]; have := hown'.1; simp [byts] at this; omega, Or.inr ⟨g, cap, _, rfl, Nat.zero_le _, hB.setCells (byts s) n, hroom, q5, ?_, ?_⟩⟩, ⟨?_, ?_, ?_, ?_, ?_⟩, Or.inl rfl⟩
      · rw [splice_size]; omega
      · have := splice_take (l := byts s) (cs := cur) (o := n) (by simp [byts]; omega)
        rw [q7, ← byts_append] at this
        simpa [byts] using this
      · exact (Step.setCells (p := fun _ => True) (fun _ => none) trivial (byts s) w n).os
      · exact (Step.setCells (p := fun _ => True) (fun _ => none) trivial (byts s) w n).tape
      · exact (Step.setCells (p := fun _ => True) (fun _ => none) trivial (byts s) w n).output
      · exact (Step.setCells (p := fun _ => True) (fun _ => none) trivial (byts s) w n).size
      · intro k hk hne
        exact heap_setCells _ _ (fun e => hne (by rw [e]))
    · have hold : (Builtin.firstCells i.size n (.slice (some ⟨g, 0, none⟩) n cap)).run Tryz.prog w.drew = .ok (byts xs).toArray w.drew := by
        rw [hz1]
        exact run_firstCells_some w.drew 1 n ⟨g, 0, none⟩ n cap (byts xs) (by rw [hown'.1]) (fun j u hu => hown'.cells (by simp [Value.ownBlock]) j u hu)
      have hr := run_append_grow_src (P := Tryz.prog) w 156 9 ty 5 i (.int .u8 0) Tryz.underlying156 hi hz0 (some ⟨g, 0, none⟩) n cap (byts xs) hold (encStr s) s.length (byts s) hS (by omega) (by omega)
        (by have := nextslicecap_le (need := n + s.length) (old := cap) (by omega); rw [hz2]; omega)
      have hge := grownCap_ge w (n + s.length) cap 5
      have hcm : grownCap w (n + s.length) cap 5 ≤ maxLen := grownCap_le_maxLen w (n + s.length) cap 5 (by unfold maxLen; omega)
      have hxl : (byts xs).length = n := by have := hown'.1; omega
      refine ⟨_, _, _, hr, ⟨?_, Or.inr ⟨_, _, _, rfl, Nat.zero_le _, heap_alloc_new w.drew _, hge, hcm, ?_, ?_⟩⟩, ⟨rfl, rfl, rfl, by simp, fun k hk _ => Below.heap_alloc w.drew _ k hk⟩, Or.inr rfl⟩
      · rw [byts_append, List.length_append, hxl]; simp [byts]
      · simp only [Array.size_append, List.size_toArray, size_zeroCells, List.length_append, hxl]
        simp [byts, Value.cells]
        omega
      · rw [Array.toList_append, byts_append]
        have : n + s.length = (byts xs ++ byts s).length := by rw [List.length_append, hxl]; simp [byts]
        rw [Nat.mul_one, this]
        exact List.take_left

/-- At the operation. -/
theorem wpList_append_text (w : World) {ops : Array Oper} {rest : List Oper} {o : Oper} {a : Act} {Q : Exit → Act → World → Prop} (hgd : o.guard = none) (s x : Operand)
    (ho : o.op = .call { callee := .builtin .append, args := #[s, x], argTypes := #[156, 9] }) (g n cap : Nat) (xs t : List UInt8) (hs : a.eval s = .slice (some ⟨g, 0, none⟩) n cap) (hx : a.eval x = encStr t)
    (hown : w.ownsRow 0 5 1 (.slice (some ⟨g, 0, none⟩) n cap) n (byts xs)) (hn : n + t.length ≤ 1000000)
    (h : ∀ g' cap' w', w'.ownsRow 0 5 1 (.slice (some ⟨g', 0, none⟩) (n + t.length) cap') (n + t.length) (byts (xs ++ t)) → w.grownBy w' (some g) → (g' = g ∨ g' = w.heap.size) → wpList Tryz.prog ops Q rest (a.put o.dst (.slice (some ⟨g', 0, none⟩) (n + t.length) cap')) w') : wpList Tryz.prog ops Q (o :: rest) a w := by
  refine wpList_plain hgd fun _ hK => ?_
  obtain ⟨g', cap', w', hr, h1, h2, h3⟩ := run_append_text w o.type g n cap xs t hown hn
  unfold Oper.wp execOp
  simp only [ho, resolve, invoke, builtin, Sem.run_bind, Sem.run_pure, Result.andThen_ok, List.map_toArray, List.map_cons, List.map_nil, hs, hx, hr]
  exact hK _ _ (h g' cap' w' h1 h2 h3)

/-- The bytes that tell of a batch that was taken. -/
def evParts (b : Bat) : List (List UInt8) := [b.ten, b.id, b.body]
def part (s : List UInt8) : List UInt8 := UInt8.ofNat s.length :: s
def evBytes (b : Bat) : List UInt8 := [0, UInt8.ofNat b.dst.toNat] ++ (evParts b).flatMap part
def evVal (b : Bat) : Value := .agg #[.int .i64 0, .int .i64 b.dst, encStr b.ten, encStr b.id, encStr b.body, .int .i64 0, .int .i64 0]

theorem u8_of {n : Nat} (h : n < 256) : ((UInt8.ofNat n).toNat : Int) = n := by
  rw [UInt8.toNat_ofNat']
  omega
theorem row_ne {w : World} {g gs n cap : Nat} {xs : List Value} {cur : Array Value} (h : w.ownsRow 0 5 1 (.slice (some ⟨g, 0, none⟩) n cap) n xs) (hb : Blk w gs cur 9) : gs ≠ g := fun e => by
  rcases h.2 with ⟨e', _⟩ | ⟨g0, cap0, cu, q1, _, q3, _⟩
  · cases e'
  · simp only [Value.slice.injEq, Option.some.injEq, Addr.mk.injEq, and_true, true_and] at q1
    obtain ⟨rfl, rfl⟩ := q1
    unfold Blk at hb
    rw [e, q3] at hb
    simp only [Option.some.injEq, Obj.cells.injEq] at hb
    exact absurd hb.2.1 (by decide)

theorem byts_snoc {w : World} {v : Value} {n m : Nat} {ys : List UInt8} (h : w.ownsRow 0 5 1 v n (byts ys ++ [.int .u8 (m : Int)])) (hm : m < 256) : w.ownsRow 0 5 1 v n (byts (ys ++ [UInt8.ofNat m])) := by
  rw [byts_append]
  have e : byts [UInt8.ofNat m] = [.int .u8 (m : Int)] := by simp only [byts, List.map_cons, List.map_nil, u8_of hm]
  rw [e]
  exact h

set_option maxRecDepth 100000 in
set_option maxHeartbeats 2000000 in
theorem appendEvent_take (v : Value) (n : Nat) (xs : List UInt8) (b : Bat) (w : World) (hown : w.ownsRow 0 5 1 v n (byts xs)) (hn : n ≤ 900000) (hd : 0 ≤ b.dst ∧ b.dst < 4) (ht : b.ten.length ≤ 16) (hid : b.id.length ≤ 16) (hbo : b.body.length ≤ 63) :
    Calls Tryz.prog 140 #[v, evVal b] w fun e w' => ∃ g cap, e = .returned (.slice (some ⟨g, 0, none⟩) (n + (evBytes b).length) cap) ∧ w'.ownsRow 0 5 1 (.slice (some ⟨g, 0, none⟩) (n + (evBytes b).length) cap) (n + (evBytes b).length) (byts (xs ++ evBytes b)) ∧ w.grownBy w' v.ownBlock ∧ (v.ownBlock = some g ∨ w.heap.size ≤ g) := by
  obtain ⟨i0, hi, hz0, hz1, hz2⟩ := info_parts infoByte
  obtain ⟨va, vk, rfl⟩ := ownsRow_shape hown
  have HO := hide hown
  obtain ⟨d, hdd⟩ : ∃ d : Nat, b.dst = d := ⟨b.dst.toNat, by omega⟩
  have hd4 : d < 4 := by omega
  unfold evVal
  rw [hdd]
  clear hown
  go_enter Tryz.func140, Tryz.ntmps140
  go_wp2_with (first
    | (at_builtin; refine wpList_append_lies _ rfl _ _ 156 rfl 0 5 i0 (.int .u8 0) 1 1 Tryz.underlying156 hi hz0 hz1 hz2 rfl (by decide) _ _ _ rfl ((HO.out.alloc _).alloc _) ⟨w.heap.size + 1, 0, none⟩ 2 2 [.int .u8 0, .int .u8 d] rfl rfl (World.news_of_block (cs := #[.int .u8 0, .int .u8 d]) (t := 5) (fr := (0, 0)) (obj_new (by simp) _)) (by simp [Value.oneCell']) (by decide) (by unfold maxLen; omega) (by omega) (Nat.zero_le _) (w.heap.size + 2) (by simp) ?_; intro g1 cap1 w1 hown1 hg1 hat1 hlt1; have hE : Blk w1 w.heap.size #[.int .i64 0, .int .i64 d, encStr b.ten, encStr b.id, encStr b.body, .int .i64 0, .int .i64 0] 151 := Blk.grown ((Blk.new w _ _).alloc _) hg1 (fun e => absurd (HO.out.lt _ e.symm).2 (by omega)); have k2 : w1.cell? ⟨w.heap.size, 2, none⟩ = some (encStr b.ten) := hE.cell 2; have k3 : w1.cell? ⟨w.heap.size, 3, none⟩ = some (encStr b.id) := hE.cell 3; have k4 : w1.cell? ⟨w.heap.size, 4, none⟩ = some (encStr b.body) := hE.cell 4; have Ho1 := hide hown1; have Hg1 := hide hg1; have Hat1 := hide hat1; clear hE hown1 hg1 hat1)
    | fail)
  have HG1 : Hid (w.grownBy w1 (Value.slice va n vk).ownBlock) := (World.grownBy_alloc w _ _).andThen ((World.grownBy_alloc _ _ _).andThen Hg1.out (fun j hj => Or.inr hj)) (fun j hj => Or.inr hj)
  have HO1 : Hid (w1.ownsRow 0 5 1 (.slice (some ⟨g1, 0, none⟩) (n + 2) cap1) (n + 2) (byts (xs ++ [0, UInt8.ofNat d]))) := by
    have := Ho1.out
    rw [byts_append]
    have e : byts [0, UInt8.ofNat d] = [.int .u8 0, .int .u8 d] := by
      simp only [byts, List.map_cons, List.map_nil, u8_of (show d < 256 by omega)]
      rfl
    rw [e]
    exact this
  have HA1 : Hid ((Value.slice va n vk).ownBlock = some g1 ∨ w.heap.size ≤ g1) := Hat1.out.imp id (fun e => by omega)
  have hz1w : w.heap.size ≤ w1.heap.size := HG1.out.size
  clear Ho1 Hg1 Hat1 k2 k3 k4
  have hlen3 : ∀ k, k ≤ 3 → ((evParts b).take k |>.flatMap part).length ≤ 98 := fun k hk => by
    match k, hk with
    | 0, _ => simp
    | 1, _ => simp [evParts, part]; omega
    | 2, _ => simp [evParts, part]; omega
    | 3, _ => simp [evParts, part]; omega
  go_loopw [0, 6, 43] (fun t _ i wr => ∃ (k g cap : Nat), k ≤ 3 ∧ i = .int .i64 k ∧ t = .slice (some ⟨g, 0, none⟩) (n + 2 + ((evParts b).take k |>.flatMap part).length) cap ∧ wr.ownsRow 0 5 1 (.slice (some ⟨g, 0, none⟩) (n + 2 + ((evParts b).take k |>.flatMap part).length) cap) (n + 2 + ((evParts b).take k |>.flatMap part).length) (byts (xs ++ [0, UInt8.ofNat d] ++ ((evParts b).take k |>.flatMap part))) ∧
      Blk wr w1.heap.size #[encStr b.ten, encStr b.id, encStr b.body] 9 ∧ w.grownBy wr (Value.slice va n vk).ownBlock ∧ ((Value.slice va n vk).ownBlock = some g ∨ w.heap.size ≤ g)) (fun _ _ i _ => 3 - (intOf i).toNat)
  case atStart => exact ⟨0, g1, cap1, by omega, rfl, by simp, by simpa using HO1.out.alloc _, Blk.new _ _ _, HG1.out.andThen (World.grownBy_alloc _ _ none) (fun j hj => by cases hj), HA1.out⟩
  case round =>
    obtain ⟨k, g, cap, hk, rfl, rfl, hown, hst, hgr, hat⟩ := hrel
    have Ho := hide hown
    have Hst := hide hst
    have Hgr := hide hgr
    have Hat := hide hat
    have hL := hlen3 k hk
    generalize hm : ((evParts b).take k |>.flatMap part) = pre at *
    have Hm := hide hm
    clear hown hst hgr hat hm
    by_cases hlt : k < 3
    · have hltI : (k : Int) < 3 := by omega
      obtain ⟨x, hx⟩ : ∃ x, (evParts b)[k]? = some x := ⟨_, List.getElem?_eq_getElem (by simp [evParts]; exact hlt)⟩
      have hxl : x.length ≤ 63 := by
        have : x ∈ evParts b := List.mem_of_getElem? hx
        simp [evParts] at this
        rcases this with rfl | rfl | rfl <;> omega
      have hcx : wr.cell? ⟨w1.heap.size, k, none⟩ = some (encStr x) := by
        rw [Hst.out.cell k]
        match k, hlt, hx with
        | 0, _, hx => simp [evParts] at hx; subst hx; rfl
        | 1, _, hx => simp [evParts] at hx; subst hx; rfl
        | 2, _, hx => simp [evParts] at hx; subst hx; rfl
      have HStep : Hid (((evParts b).take (k + 1) |>.flatMap part) = pre ++ part x) := by
        have h1 : k < (evParts b).length := (List.getElem?_eq_some_iff.1 hx).1
        have h2 : (evParts b)[k] = x := (List.getElem?_eq_some_iff.1 hx).2
        show _ = _
        rw [List.take_succ_eq_append_getElem h1, List.flatMap_append, Hm.out, h2]
        simp
      have hxI : (x.length : Int) < 256 := by omega
      clear hx
      go_wp2_with (first
        | (at_builtin; refine wpList_append_lies _ rfl _ _ 156 rfl 0 5 i0 (.int .u8 0) 1 1 Tryz.underlying156 hi hz0 hz1 hz2 rfl (by decide) (.slice (some ⟨g, 0, none⟩) (n + 2 + pre.length) cap) _ _ rfl (Ho.out.alloc _) ⟨wr.heap.size, 0, none⟩ 1 1 [.int .u8 (x.length : Int)] rfl rfl (World.news_of_block (cs := #[.int .u8 (x.length : Int)]) (t := 5) (fr := (0, 0)) (obj_new rfl _)) (by simp [Value.oneCell']) (by decide) (by unfold maxLen; omega) (by omega) (Nat.zero_le _) (wr.heap.size + 1) (by simp) ?_; intro g2 cap2 w2 hown2 hg2 hat2 hlt2; have hO2 : w2.ownsRow 0 5 1 (.slice (some ⟨g2, 0, none⟩) (n + 2 + pre.length + 1) cap2) (n + 2 + pre.length + 1) (byts (xs ++ [0, UInt8.ofNat d] ++ pre ++ [UInt8.ofNat x.length])) := byts_snoc hown2 (by omega); have Hg2 := hide hg2; have Hat2 := hide hat2; have HO2 := hide hO2; have Hst2 := hide (Blk.grown (Hst.out.alloc _) hg2 (fun e => row_ne Ho.out Hst.out (Option.some.inj e))); clear hown2 hg2 hat2 hO2)
        | (at_builtin; refine wpList_append_text _ rfl _ _ rfl g2 (n + 2 + pre.length + 1) cap2 _ x rfl rfl HO2.out (by omega) ?_; intro g3 cap3 w3 hown3 hg3 hat3; have Ho3 := hide hown3; have Hg3 := hide hg3; have Hat3 := hide hat3; have Hst3 := hide (Hst2.out.grown hg3 (fun e => row_ne HO2.out Hst2.out (Option.some.inj e))); clear hown3 hg3 hat3)
        | fail)
      go_roundw
      case rel =>
        have hgA : w.grownBy w2 (Value.slice va n vk).ownBlock := Hgr.out.andThen ((World.grownBy_alloc wr _ _).trans Hg2.out) (fun j hj => by
          have e : g = j := by simpa [Value.ownBlock] using hj
          subst e
          exact Hat.out.symm.imp id id)
        have ha2 : (Value.slice va n vk).ownBlock = some g2 ∨ w.heap.size ≤ g2 := by
          rcases Hat2.out with e | e
          · have e' : g = g2 := by simpa [Value.ownBlock] using e
            subst e'
            exact Hat.out
          · have := Hgr.out.size
            exact Or.inr (by omega)
        have hgB : w.grownBy w3 (Value.slice va n vk).ownBlock := hgA.andThen Hg3.out (fun j hj => by
          have e : g2 = j := by simpa using hj
          subst e
          exact ha2.symm.imp id id)
        have hpl : (part x).length = x.length + 1 := by simp [part]
        refine ⟨k + 1, g3, cap3, by omega, by go_num, ?_, ?_, Hst3.out, hgB, ?_⟩
        · rw [HStep.out, List.length_append, hpl]
          congr 1
          omega
        · have := Ho3.out
          rw [HStep.out, List.length_append, hpl]
          rw [show n + 2 + pre.length + 1 + x.length = n + 2 + (pre.length + (x.length + 1)) by omega] at this
          simpa [part] using this
        · rcases Hat3.out with rfl | e
          · exact ha2
          · have := hgA.size
            exact Or.inr (by omega)
      case measure => simp [intOf]; omega
    · have e3 : k = 3 := by omega
      subst e3
      have Hpre : Hid (pre = (evParts b).flatMap part) := by rw [← Hm.out]; rfl
      go_wp2_with fail
      go_ret
      have hb2 : evBytes b = [0, UInt8.ofNat d] ++ pre := by
        unfold evBytes
        rw [Hpre.out, hdd]
        simp
      have hbl : (evBytes b).length = 2 + pre.length := by rw [hb2]; simp; omega
      refine ⟨g, cap, ?_, ?_, Hgr.out, Hat.out⟩
      · rw [hbl, ← Nat.add_assoc]; rfl
      · have := Ho.out
        rw [hbl, ← Nat.add_assoc, hb2, ← List.append_assoc]
        exact this
end Go.Proofs.YtojpjaifhjigfaaGreatDoor
