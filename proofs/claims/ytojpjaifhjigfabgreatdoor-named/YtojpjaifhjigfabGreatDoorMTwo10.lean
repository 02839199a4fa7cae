/- Steps of the proof (several texts in one): GiveUp2, Reader, Reader2, RefNames, Good. -/
import Derived.Test.YtojpjaifhjigfabGreatDoorMTwo09
import Derived.Laws.Strings2
import Derived.Test.YtojpjaifhjigfabGreatDoorMTwo01
import Derived.Sort.OwnSorted
import Derived.Sort.Walk0
import Derived.Deep.AppendLies
import Derived.Deep.DeepCutAuto
import Derived.Deep.QuietTactic
import Derived.BigQuiet

/- giveUp: the walk. -/
namespace Go.Proofs.YtojpjaifhjigfabGreatDoor
open Go.RowKit Go.Maps

theorem infoEvent3 : (Tryz.prog.info? 115).map (fun i => (i.zero, i.size, i.bytes)) = some (some (.agg #[.int .i64 0, .int .i64 0, .string ⟨#[]⟩, .string ⟨#[]⟩, .string ⟨#[]⟩, .int .i64 0, .int .i64 0]), 7, 80) := by kernel_rfl

/-- An owner that nobody is yet. -/
theorem fresh_owner (L : Labs) : ∀ n : Nat, ∃ N : Nat, ∀ k, k < n → ∀ m q, L k = some (m, q) → m < N
  | 0 => ⟨0, fun k hk => by omega⟩
  | n + 1 => by
    obtain ⟨N, hN⟩ := fresh_owner L n
    refine ⟨N + (match L n with | some (m, _) => m + 1 | none => 0), fun k hk m q h => ?_⟩
    rcases Nat.lt_succ_iff_lt_or_eq.1 hk with h1 | h1
    · have := hN k h1 m q h
      omega
    · subst h1
      rw [h]
      simp only
      omega
theorem Step.fresh {p : Lab → Prop} {l : Lab} {L L' : Labs} {w w' : World} (s : Step (fun x => p x ∨ x = l) L w L' w') (h : ∀ k, k < w.heap.size → L k ≠ l) : Step p L w L' w' :=
  ⟨s.os, s.tape, s.output, s.size, s.lab, fun k hk hn => s.block k hk (fun e => by
    rcases e with e | e
    · exact hn e
    · exact h k hk e)⟩

/-- What giveUp leaves. -/
def GaveUp (w : World) (L : Labs) (l : Lab) (who g : Nat) (x : Ag × List Ev) (e : Ending) (w' : World) : Prop := ∃ v L', e = .returned v ∧ RowAt w' L' l 115 7 v x.2.length (x.2.flatMap Ev.cells) ∧ AgentAt w' L' who g x.1 ∧ Step (ofP who) L w L' w'

set_option maxRecDepth 100000 in
set_option maxHeartbeats 4000000 in
theorem giveUp_any (L : Labs) (l : Lab) (who g : Nat) (M : Ag) (draw : Int) (w : World) (hl : ¬ ofP who l) (hfr : ∀ k, k < w.heap.size → L k ≠ l) (hA : AgentAt w L who g M) (h : GiveOk M draw) :
    Calls Tryz.prog 71 #[.pointer (some ⟨g, 0, none⟩), .int .i64 draw] w fun e w' => GaveUp w L l who g (M.gaveUp draw M.os.length) e w' := by
  have ho4 := h.o4
  have hti := h.c.ti
  have hn0 := h.n0
  have hn1 := h.n1
  have HG := hide (gaveUp_gave h)
  have HL := hide (fun k => gaveUp_len (M := M) (draw := draw) k)
  have H := hide h
  have HA := hide hA
  have Hfr := hide hfr
  have c18 : ∃ oa ok, w.cell? ⟨g, 18, none⟩ = some (.slice oa M.os.length ok) := by
    obtain ⟨bq, bm, cn, tv, dv, nv, rv, ov, q⟩ := hA
    obtain ⟨fs, h1, h2, h3⟩ := q.ol
    obtain ⟨oa, ok, rfl, _⟩ := h2.shape
    exact ⟨oa, ok, q.blk.1.cell 18⟩
  obtain ⟨oa, ok, c18⟩ := c18
  obtain ⟨i0, hi, hz0, hz1, hz2⟩ := info_parts infoEvent3
  generalize hn : M.os.length = n at *
  have Hn := hide hn
  clear h hA hfr hn
  go_enter Tryz.func71, Tryz.ntmps71
  go_wp2_with fail
  go_loopw [5, 13] (fun t i wr => ∃ (k : Nat) (L1 : Labs) (ea : Option Addr) (m ek : Nat), k ≤ n ∧ i = .int .i64 k ∧ t = .slice ea m ek ∧ m = (M.gaveUp draw k).2.length ∧ RowAt wr L1 l 115 7 (.slice ea m ek) m ((M.gaveUp draw k).2.flatMap Ev.cells) ∧ AgentAt wr L1 who g (M.gaveUp draw k).1 ∧ Step (fun x => ofP who x ∨ x = l) L w L1 wr) (fun _ i _ => n - (intOf i).toNat)
  case atStart => exact ⟨0, L, none, 0, 0, Nat.zero_le _, rfl, rfl, rfl, RowAt.nil _ _ _ _ _, HA.out, Step.refl _ _ _⟩
  case round =>
    obtain ⟨k, L1, ea, m, ek, hk, rfl, rfl, hm, hrow, hA1, hS1⟩ := hrel
    have Hm := hide hm
    have Hrow := hide hrow
    have HA1 := hide hA1
    have HS1 := hide hS1
    have hm4 : m ≤ 4 := by rw [hm]; have := HL.out k; omega
    clear hm hrow hA1 hS1
    by_cases hlt : k < n
    · have hltI : (k : Int) < (n : Int) := by omega
      obtain ⟨o, ho⟩ : ∃ o, M.os[k]? = some o := ⟨_, List.getElem?_eq_getElem (by rw [Hn.out]; exact hlt)⟩
      have hg := HG.out k
      obtain ⟨bq, bm, cn, tv, dv, nv, rv, ov, hAt⟩ := HA1.out
      obtain ⟨go, gk, rfl, hF⟩ := hAt.focus ((hg.os k (Nat.le_refl _)).trans ho)
      rw [hg.len, Hn.out] at hAt
      obtain ⟨g2, ca, ck, hC⟩ := hF.cells
      have d18 : wr.cell? ⟨g, 18, none⟩ = some (.slice (some ⟨go, 0, none⟩) n gk) := hAt.blk.1.cell 18
      have d16 : wr.cell? ⟨g, 16, none⟩ = some (.int .i64 M.now) := by have := hAt.blk.1.cell 16; rw [show _ = _ from this]; simp [agCells, hg.now]
      have d10 : wr.cell? ⟨g, 10, none⟩ = some (.int .i64 M.c.ti) := by have := hAt.blk.1.cell 10; rw [show _ = _ from this]; simp [agCells, hg.c]
      have e8 := hC.c8
      have e9 := hC.c9
      have hok := H.out.os k o ho
      have hb0 := hok.b0
      have hb1 := hok.b1
      have HStep : Hid (M.gaveUp draw (k + 1) = if o.way ≠ -1 ∧ M.c.ti ≤ M.now - o.began then (((M.gaveUp draw k).1.settled k false draw).1, (M.gaveUp draw k).2 ++ [((M.gaveUp draw k).1.settled k false draw).2]) else M.gaveUp draw k) := by
        show _ = _
        rw [Ag.gaveUp, ho]
      have HBusy := hide (fun w1 h1 => isBusy_any go (k * 10) o.way w1 h1)
      have Ho := hide ho
      have E8 := hide e8
      clear hAt hF hC hok ho hg
      by_cases hw : o.way = -1
      · have hwb : (o.way != -1) = false := by simp [hw]
        rw [hwb] at HBusy
        have Hw := hide hw
        clear hw hwb e8
        go_wp2_with fail
        go_quiet ((go_at_call 90; exact Calls.quiet_of_same (HBusy.out _ (by exact E8.out))))
        go_wp2_with fail
        go_roundw
        case rel =>
          refine ⟨k + 1, L1, ea, m, ek, by omega, by go_num, rfl, ?_, ?_, ?_, HS1.out.trans (Step.drewN L1 wr _)⟩
          · rw [HStep.out, if_neg (fun h => h.1 Hw.out)]; exact Hm.out
          · rw [HStep.out, if_neg (fun h => h.1 Hw.out)]; exact Hrow.out.keep (Step.drewN (p := fun _ => False) L1 wr _) (fun h => h)
          · rw [HStep.out, if_neg (fun h => h.1 Hw.out)]; exact HA1.out.keep (Step.drewN (p := fun _ => False) L1 wr _) (fun _ h => h)
        case measure => simp [intOf]; omega
      · have hwb : (o.way != -1) = true := by simp [hw]
        rw [hwb] at HBusy
        have Hw := hide hw
        clear hw hwb e8
        by_cases hto : M.c.ti ≤ M.now - o.began
        · have Hto := hide hto
          obtain ⟨p, b, r, hs, _⟩ := H.out.set (HG.out k) Ho.out Hw.out
          have HSet := hide (fun W hW => settle_any L1 who g k p (M.gaveUp draw k).1 o b r false draw W hW hs)
          obtain ⟨sx, hsx⟩ : ∃ sx, (M.gaveUp draw k).1.settled k false draw = sx := ⟨_, rfl⟩
          rw [hsx] at HSet HStep
          unfold Ev.val at HSet
          clear hs hsx
          go_wp2_with fail
          go_quiet ((go_at_call 90; exact Calls.quiet_of_same (HBusy.out _ (by exact E8.out))))
          go_wp2_with fail
          refine (HSet.out _ (HA1.out.keep (Step.drewN (p := fun _ => False) L1 wr _) (fun _ h => h))).mono ?_
          rintro e w2 ⟨rfl, L2, hA2, hS2⟩
          have HA2 := hide hA2
          have hS2' : Step (ofP who) L1 wr L2 w2 := (Step.drewN L1 wr _).trans hS2
          have HR2 := hide (Hrow.out.keep hS2' hl)
          have HS2 : Hid (Step (fun x => ofP who x ∨ x = l) L w L2 w2) := HS1.out.trans (hS2'.mono (fun x h => Or.inl h))
          clear hA2 hS2 hS2'
          go_wp2_with (first
            | (at_builtin; refine wpList_append_lies _ rfl _ _ 82 rfl 0 115 i0 (.agg #[.int .i64 0, .int .i64 0, .string ⟨#[]⟩, .string ⟨#[]⟩, .string ⟨#[]⟩, .int .i64 0, .int .i64 0]) 7 80 Tryz.underlying82 hi hz0 hz1 hz2 rfl (by decide) (.slice ea m ek) m _ rfl (HR2.out.1.alloc _) ⟨w2.heap.size, 0, none⟩ 1 1 sx.2.cells rfl rfl (World.news_of_block (cs := sx.2.cells.toArray) (t := 115) (fr := (0, 0)) (heap_alloc_new w2 _)) (by simp [Value.oneCell', Ev.cells, encStr]) (by decide) (by unfold maxLen; omega) (by omega) (Nat.zero_le _) (w2.heap.size + 1) (by simp) ?_; intro g3 cap3 w3 hown3 hg3 hat3 hlt3; have Ho3 := hide hown3; have Hg3 := hide hg3; have Hat3 := hide hat3; clear hown3 hg3 hat3)
            | fail)
          go_roundw
          case rel =>
            have hyes : o.way ≠ -1 ∧ M.c.ti ≤ M.now - o.began := ⟨Hw.out, Hto.out⟩
            have hat : (Value.slice ea m ek).ownBlock = some g3 ∨ (w2.alloc (.cells sx.2.cells.toArray 115)).heap.size ≤ g3 := Hat3.out.imp id (fun e => by simp; omega)
            have hR2' := HR2.out.keep (Step.alloc (p := fun _ => False) L2 w2 (.cells sx.2.cells.toArray 115)) (fun h => h)
            obtain ⟨hrow3, hlab3⟩ := RowAt.appended hR2' Ho3.out hat
            have hsa : Step (fun x => x = l) L2 w2 (lay L2 g3 l) w3 := (Step.alloc L2 w2 _).trans (Step.of_grown Hg3.out (fun j hj => hR2'.2 j hj) hlab3)
            refine ⟨k + 1, lay L2 g3 l, some ⟨g3, 0, none⟩, m + 1, cap3, by omega, by go_num, rfl, ?_, ?_, ?_, HS2.out.trans (hsa.mono (fun x h => Or.inr h))⟩
            · rw [HStep.out, if_pos hyes, List.length_append, Hm.out]; rfl
            · rw [HStep.out, if_pos hyes, List.flatMap_append]
              simpa using hrow3
            · rw [HStep.out, if_pos hyes]
              exact HA2.out.keep hsa (fun q h => hl ⟨q, h.symm⟩)
          case measure => simp [intOf]; omega
        · have Hto := hide hto
          go_wp2_with fail
          go_quiet ((go_at_call 90; exact Calls.quiet_of_same (HBusy.out _ (by exact E8.out))))
          go_wp2_with fail
          go_roundw
          case rel =>
            have hno : ¬ (o.way ≠ -1 ∧ M.c.ti ≤ M.now - o.began) := fun h => by have := Hto.out; omega
            refine ⟨k + 1, L1, ea, m, ek, by omega, by go_num, rfl, ?_, ?_, ?_, HS1.out.trans (Step.drewN L1 wr _)⟩
            · rw [HStep.out, if_neg hno]; exact Hm.out
            · rw [HStep.out, if_neg hno]; exact Hrow.out.keep (Step.drewN (p := fun _ => False) L1 wr _) (fun h => h)
            · rw [HStep.out, if_neg hno]; exact HA1.out.keep (Step.drewN (p := fun _ => False) L1 wr _) (fun _ h => h)
          case measure => simp [intOf]; omega
    · have hkn : k = n := by omega
      subst hkn
      go_wp2_with fail
      go_ret
      refine ⟨_, L1, rfl, ?_, HA1.out, HS1.out.fresh Hfr.out⟩
      rw [← Hm.out]
      exact Hrow.out
end Go.Proofs.YtojpjaifhjigfabGreatDoor

/- The reader of a log. -/
namespace Go.Proofs.YtojpjaifhjigfabGreatDoor
open Go.RowKit Go.Maps

/-- What is left, and whether a piece was not there whole. -/
structure Rd where
  rest : List UInt8
  short : Bool
def Rd.cells (r : Rd) : Array Value := #[encStr r.rest, .bool r.short]
def Rd.piece (r : Rd) (n : Nat) : List UInt8 × Rd := if r.rest.length < n then ([], ⟨[], true⟩) else (r.rest.take n, ⟨r.rest.drop n, r.short⟩)
def Rd.number (r : Rd) : Nat × Rd := match r.rest with | [] => (0, ⟨[], true⟩) | x :: l => (x.toNat, ⟨l, r.short⟩)
def Rd.text (r : Rd) : List UInt8 × Rd := r.number.2.piece r.number.1
def Rd.record (r : Rd) : Nat × List UInt8 × Rd := (r.number.1, (r.number.2.number.2.number.2.piece (r.number.2.number.1 * 256 + r.number.2.number.2.number.1)).1, (r.number.2.number.2.number.2.piece (r.number.2.number.1 * 256 + r.number.2.number.2.number.1)).2)
/-- Where the reader lies; all else is as it was. -/
def RdAt (w : World) (gr : Nat) (r : Rd) : Prop := Blk w gr r.cells 94
theorem Rd.number_lt (r : Rd) : r.number.1 < 256 := by
  unfold Rd.number
  split
  · simp
  · rename_i x l _
    exact x.toNat_lt

theorem grown_refl (w : World) (r : Option Nat) : w.grownBy w r := ⟨rfl, rfl, rfl, Nat.le_refl _, fun _ _ _ => rfl⟩
theorem grown_trans {w w1 w2 : World} {r : Option Nat} (h : w.grownBy w1 r) (k : w1.grownBy w2 r) : w.grownBy w2 r :=
  ⟨k.os.trans h.os, k.tape.trans h.tape, k.output.trans h.output, Nat.le_trans h.size k.size, fun i hi hn => (k.block i (Nat.lt_of_lt_of_le hi h.size) hn).trans (h.block i hi hn)⟩
theorem grown_set (w : World) (g i : Nat) (v : Value) : w.grownBy (w.setCell ⟨g, i, none⟩ v) (some g) :=
  ⟨rfl, rfl, rfl, by simp [World.setCell], fun k _ hn => Below.heap_setCell _ _ _ _ (fun e => hn (by simpa using e))⟩
theorem grown_drew (w : World) (r : Option Nat) : w.grownBy w.drew r := ⟨rfl, rfl, rfl, Nat.le_refl _, fun _ _ _ => rfl⟩

theorem enc_take (l : List UInt8) (n : Nat) : Value.string ((ByteArray.mk l.toArray).extract 0 n) = encStr (l.take n) := by
  rw [ByteArray.extract_mk]
  rfl
theorem enc_drop (l : List UInt8) (n : Nat) : Value.string ((ByteArray.mk l.toArray).extract n l.length) = encStr (l.drop n) := by
  rw [ByteArray.extract_mk, List.take_of_length_le (by simp)]

set_option maxHeartbeats 1000000 in
theorem piece_any (gr : Nat) (r : Rd) (n : Nat) (w : World) (h : RdAt w gr r) : Calls Tryz.prog 61 #[.pointer (some ⟨gr, 0, none⟩), .int .i64 n] w fun e w' => e = .returned (encStr (r.piece n).1) ∧ RdAt w' gr (r.piece n).2 ∧ w.grownBy w' (some gr) := by
  have c0 : w.cell? ⟨gr, 0, none⟩ = some (encStr r.rest) := Blk.cell h 0
  have c1 : w.cell? ⟨gr, 1, none⟩ = some (.bool r.short) := Blk.cell h 1
  have f0 : w.frozen? ⟨gr, 0, none⟩ = false := Blk.frozen h 0
  have f1 : w.frozen? ⟨gr, 1, none⟩ = false := Blk.frozen h 1
  have H := hide h
  obtain ⟨rest, short⟩ := r
  simp only at c0 c1
  clear h
  by_cases hlt : rest.length < n
  · have hltI : (rest.length : Int) < (n : Int) := by omega
    have e : Rd.piece ⟨rest, short⟩ n = ([], ⟨[], true⟩) := if_pos hlt
    rw [e]
    clear e
    go_enter Tryz.func61, Tryz.ntmps61
    go_wp2_with fail
    go_ret
    refine ⟨rfl, ?_, grown_trans (grown_set _ _ _ _) (grown_set _ _ _ _)⟩
    exact (Blk.set (Blk.set H.out 0 (encStr [])) 1 (.bool true))
  · have hltI : ¬ (rest.length : Int) < (n : Int) := by omega
    have e : Rd.piece ⟨rest, short⟩ n = (rest.take n, ⟨rest.drop n, short⟩) := if_neg hlt
    rw [e]
    clear e
    go_enter Tryz.func61, Tryz.ntmps61
    go_wp2_with fail
    go_ret
    refine ⟨?_, ?_, grown_set _ _ _ _⟩
    · show Ending.returned (Value.string _) = _
      rw [enc_take]
    · rw [enc_drop]
      exact Blk.set H.out 0 (encStr (rest.drop n))

theorem wrap64_small {n : Nat} (h : n < 1000000) : wrap64 (n : Int) = n := by
  unfold wrap64
  omega
theorem number_piece (r : Rd) : r.number = (match (r.piece 1).1 with | [] => 0 | x :: _ => x.toNat, (r.piece 1).2) := by
  obtain ⟨rest, short⟩ := r
  cases rest with
  | nil => rfl
  | cons x l =>
    unfold Rd.number Rd.piece
    simp
set_option maxHeartbeats 1000000 in
theorem number_any (gr : Nat) (r : Rd) (w : World) (h : RdAt w gr r) : Calls Tryz.prog 60 #[.pointer (some ⟨gr, 0, none⟩)] w fun e w' => e = .returned (.int .i64 r.number.1) ∧ RdAt w' gr r.number.2 ∧ w.grownBy w' (some gr) := by
  have HP := hide (piece_any gr r 1 w h)
  rw [number_piece]
  have hl : (r.piece 1).1.length ≤ 1 := by
    unfold Rd.piece
    split
    · simp
    · simp; omega
  generalize r.piece 1 = pr at *
  obtain ⟨p, r'⟩ := pr
  simp only at HP hl ⊢
  clear h
  cases p with
  | nil =>
    go_enter Tryz.func60, Tryz.ntmps60
    go_wp2_with fail
    refine HP.out.mono ?_
    rintro e w1 ⟨rfl, h1, h2⟩
    have H1 := hide h1
    have H2 := hide h2
    clear h1 h2
    go_wp2_with fail
    go_ret
    exact ⟨rfl, H1.out, H2.out⟩
  | cons x l =>
    obtain rfl : l = [] := by simpa using hl
    go_enter Tryz.func60, Tryz.ntmps60
    go_wp2_with fail
    refine HP.out.mono ?_
    rintro e w1 ⟨rfl, h1, h2⟩
    have H1 := hide h1
    have H2 := hide h2
    clear h1 h2
    go_wp2_with fail
    go_ret
    refine ⟨?_, H1.out, H2.out⟩
    show Ending.returned (Value.int IntKind.i64 (wrap64 ((x.toNat : Nat) : Int))) = _
    rw [wrap64_small (by have := x.toNat_lt; omega)]
set_option maxHeartbeats 1000000 in
theorem text_any (gr : Nat) (r : Rd) (w : World) (h : RdAt w gr r) : Calls Tryz.prog 81 #[.pointer (some ⟨gr, 0, none⟩)] w fun e w' => e = .returned (encStr r.text.1) ∧ RdAt w' gr r.text.2 ∧ w.grownBy w' (some gr) := by
  have HN := hide (number_any gr r w h)
  have HP := hide (fun w' h' => piece_any gr r.number.2 r.number.1 w' h')
  unfold Rd.text
  generalize r.number = nr at *
  obtain ⟨n, r1⟩ := nr
  simp only at HN HP ⊢
  generalize r1.piece n = pr at *
  obtain ⟨p, r2⟩ := pr
  simp only at HP ⊢
  clear h
  go_enter Tryz.func81, Tryz.ntmps81
  go_wp2_with fail
  refine HN.out.mono ?_
  rintro e w1 ⟨rfl, h1, h2⟩
  have HP1 := hide (HP.out w1 h1)
  have H2 := hide h2
  clear h1 h2
  go_wp2_with fail
  refine HP1.out.mono ?_
  rintro e w2 ⟨rfl, h3, h4⟩
  have H3 := hide h3
  have H4 := hide h4
  clear h3 h4
  go_wp2_with fail
  go_ret
  exact ⟨rfl, H3.out, grown_trans H2.out H4.out⟩
end Go.Proofs.YtojpjaifhjigfabGreatDoor

/- The reader: a record, an event. -/
namespace Go.Proofs.YtojpjaifhjigfabGreatDoor
open Go.RowKit Go.Maps

set_option maxHeartbeats 1000000 in
theorem rdRecord_any (gr : Nat) (r : Rd) (w : World) (h : RdAt w gr r) : Calls Tryz.prog 38 #[.pointer (some ⟨gr, 0, none⟩)] w fun e w' => e = .returned (.tuple #[.int .i64 r.record.1, encStr r.record.2.1]) ∧ RdAt w' gr r.record.2.2 ∧ w.grownBy w' (some gr) := by
  have HN1 := hide (number_any gr r w h)
  have HN2 := hide (fun w' h' => number_any gr r.number.2 w' h')
  have HN3 := hide (fun w' h' => number_any gr r.number.2.number.2 w' h')
  have HP := hide (fun w' h' => piece_any gr r.number.2.number.2.number.2 (r.number.2.number.1 * 256 + r.number.2.number.2.number.1) w' h')
  have b2 := r.number.2.number_lt
  have b3 := r.number.2.number.2.number_lt
  unfold Rd.record
  generalize r.number = x1 at *
  obtain ⟨n1, r1⟩ := x1
  simp only at HN1 HN2 HN3 HP b2 b3 ⊢
  generalize r1.number = x2 at *
  obtain ⟨n2, r2⟩ := x2
  simp only at HN2 HN3 HP b2 b3 ⊢
  generalize r2.number = x3 at *
  obtain ⟨n3, r3⟩ := x3
  simp only at HN3 HP b3 ⊢
  have e : (n2 : Int) * 256 + (n3 : Int) = ((n2 * 256 + n3 : Nat) : Int) := by omega
  have HP' : Hid (∀ w', RdAt w' gr r3 → Calls Tryz.prog 61 #[.pointer (some ⟨gr, 0, none⟩), .int .i64 ((n2 : Int) * 256 + (n3 : Int))] w' fun e w2 => e = .returned (encStr (r3.piece (n2 * 256 + n3)).1) ∧ RdAt w2 gr (r3.piece (n2 * 256 + n3)).2 ∧ w'.grownBy w2 (some gr)) := fun w' h' => by
    rw [e]; exact HP.out w' h'
  generalize r3.piece (n2 * 256 + n3) = pr at *
  obtain ⟨p, r4⟩ := pr
  simp only at HP' ⊢
  clear h HP e
  go_enter Tryz.func38, Tryz.ntmps38
  go_wp2_with fail
  refine HN1.out.mono ?_
  rintro e w1 ⟨rfl, h1, g1⟩
  have HN2' := hide (HN2.out w1 h1)
  have G1 := hide g1
  clear h1 g1
  go_wp2_with fail
  refine HN2'.out.mono ?_
  rintro e w2 ⟨rfl, h2, g2⟩
  have HN3' := hide (HN3.out w2 h2)
  have G2 := hide (grown_trans G1.out g2)
  clear h2 g2
  go_wp2_with fail
  refine HN3'.out.mono ?_
  rintro e w3 ⟨rfl, h3, g3⟩
  have HP3 := hide (HP'.out w3 h3)
  have G3 := hide (grown_trans G2.out g3)
  clear h3 g3
  go_wp2_with fail
  refine HP3.out.mono ?_
  rintro e w4 ⟨rfl, h4, g4⟩
  have H4 := hide h4
  have G4 := hide (grown_trans G3.out g4)
  clear h4 g4
  go_wp2_with fail
  go_ret2
  exact ⟨rfl, H4.out, G4.out⟩

/-- An event as its bytes say it. -/
def Rd.event (r : Rd) : Ev × Rd :=
  if r.number.1 ≠ 0 then (⟨r.number.1, noBat, r.number.2.number.1, r.number.2.number.2.number.1⟩, r.number.2.number.2.number.2)
  else (⟨0, ⟨r.number.2.number.1, r.number.2.number.2.text.1, r.number.2.number.2.text.2.text.1, r.number.2.number.2.text.2.text.2.text.1, 0, 0⟩, 0, 0⟩, r.number.2.number.2.text.2.text.2.text.2)

/-- While an event is read: the reader, the result's block, the event's block. -/
structure EvAt (w W : World) (gr gE : Nat) (r : Rd) (cs : Array Value) : Prop where
  rd : RdAt W gr r
  res : Blk W w.heap.size #[.int .i64 0, .int .i64 0, .string ⟨#[]⟩, .string ⟨#[]⟩, .string ⟨#[]⟩, .int .i64 0, .int .i64 0] 115
  ev : Blk W gE cs 115
  gw : w.grownBy W (some gr)
  lt : w.heap.size < gE
  hr : gr < w.heap.size
theorem EvAt.call {w W W' : World} {gr gE : Nat} {r r' : Rd} {cs : Array Value} (h : EvAt w W gr gE r cs) (h' : RdAt W' gr r') (g : W.grownBy W' (some gr)) : EvAt w W' gr gE r' cs :=
  ⟨h', h.res.grown g (by have := h.hr; simp; omega), h.ev.grown g (by have := h.hr; have := h.lt; simp; omega), grown_trans h.gw g, h.lt, h.hr⟩
theorem grown_high {w W : World} {r : Option Nat} (h : w.grownBy W r) {g : Nat} (hg : w.heap.size ≤ g) (i : Nat) (v : Value) : w.grownBy (W.setCell ⟨g, i, none⟩ v) r :=
  ⟨h.os, h.tape, h.output, by simp [World.setCell]; exact h.size, fun k hk hn => (Below.heap_setCell _ _ _ _ (fun e => by simp at e; omega)).trans (h.block k hk hn)⟩
theorem grown_alloc {w W : World} {r : Option Nat} (h : w.grownBy W r) (o : Obj) : w.grownBy (W.alloc o) r :=
  ⟨h.os, h.tape, h.output, by simp; exact Nat.le_succ_of_le h.size, fun k hk hn => (Below.heap_alloc _ _ _ (Nat.lt_of_lt_of_le hk h.size)).trans (h.block k hk hn)⟩
theorem EvAt.set {w W : World} {gr gE : Nat} {r : Rd} {cs : Array Value} (h : EvAt w W gr gE r cs) (i : Nat) (v : Value) : EvAt w (W.setCell ⟨gE, i, none⟩ v) gr gE r (cs.setIfInBounds i v) :=
  ⟨Blk.other h.rd _ _ (by have := h.hr; have := h.lt; simp; omega), h.res.other _ _ (by have := h.lt; simp; omega), h.ev.set i v, grown_high h.gw (Nat.le_of_lt h.lt) i v, h.lt, h.hr⟩
/-- The event is handed back. -/
theorem EvAt.out {w W : World} {gr gE : Nat} {r : Rd} {cs : Array Value} (h : EvAt w W gr gE r cs) (v0 v1 v2 v3 v4 v5 v6 : Value) :
    Blk (((((((W.setCell ⟨w.heap.size, 0, none⟩ v0).setCell ⟨w.heap.size, 1, none⟩ v1).setCell ⟨w.heap.size, 2, none⟩ v2).setCell ⟨w.heap.size, 3, none⟩ v3).setCell ⟨w.heap.size, 4, none⟩ v4).setCell ⟨w.heap.size, 5, none⟩ v5).setCell ⟨w.heap.size, 6, none⟩ v6) w.heap.size #[v0, v1, v2, v3, v4, v5, v6] 115 ∧ RdAt (((((((W.setCell ⟨w.heap.size, 0, none⟩ v0).setCell ⟨w.heap.size, 1, none⟩ v1).setCell ⟨w.heap.size, 2, none⟩ v2).setCell ⟨w.heap.size, 3, none⟩ v3).setCell ⟨w.heap.size, 4, none⟩ v4).setCell ⟨w.heap.size, 5, none⟩ v5).setCell ⟨w.heap.size, 6, none⟩ v6) gr r ∧ w.grownBy (((((((W.setCell ⟨w.heap.size, 0, none⟩ v0).setCell ⟨w.heap.size, 1, none⟩ v1).setCell ⟨w.heap.size, 2, none⟩ v2).setCell ⟨w.heap.size, 3, none⟩ v3).setCell ⟨w.heap.size, 4, none⟩ v4).setCell ⟨w.heap.size, 5, none⟩ v5).setCell ⟨w.heap.size, 6, none⟩ v6) (some gr) := by
  have hr := h.hr
  have hne : gr ≠ w.heap.size := by omega
  refine ⟨((((((h.res.set 0 v0).set 1 v1).set 2 v2).set 3 v3).set 4 v4).set 5 v5).set 6 v6, ?_, ?_⟩
  · exact Blk.other (Blk.other (Blk.other (Blk.other (Blk.other (Blk.other (Blk.other h.rd _ _ (by simpa using hne)) _ _ (by simpa using hne)) _ _ (by simpa using hne)) _ _ (by simpa using hne)) _ _ (by simpa using hne)) _ _ (by simpa using hne)) _ _ (by simpa using hne)
  · exact grown_high (grown_high (grown_high (grown_high (grown_high (grown_high (grown_high h.gw (Nat.le_refl _) _ _) (Nat.le_refl _) _ _) (Nat.le_refl _) _ _) (Nat.le_refl _) _ _) (Nat.le_refl _) _ _) (Nat.le_refl _) _ _) (Nat.le_refl _) _ _

set_option maxRecDepth 100000 in
set_option maxHeartbeats 2000000 in
theorem rdEvent_any (gr : Nat) (r : Rd) (w : World) (h : RdAt w gr r) : Calls Tryz.prog 62 #[.pointer (some ⟨gr, 0, none⟩)] w fun e w' => e = .returned r.event.1.val ∧ RdAt w' gr r.event.2 ∧ w.grownBy w' (some gr) := by
  have hgr : gr < w.heap.size := Blk.lt h
  have HN1 := hide (number_any gr r (w.alloc (.cells #[.int .i64 0, .int .i64 0, .string ⟨#[]⟩, .string ⟨#[]⟩, .string ⟨#[]⟩, .int .i64 0, .int .i64 0] 115)) (Blk.alloc h _))
  have HN2 := hide (fun w' h' => number_any gr r.number.2 w' h')
  have HN3 := hide (fun w' h' => number_any gr r.number.2.number.2 w' h')
  have HT1 := hide (fun w' h' => text_any gr r.number.2.number.2 w' h')
  have HT2 := hide (fun w' h' => text_any gr r.number.2.number.2.text.2 w' h')
  have HT3 := hide (fun w' h' => text_any gr r.number.2.number.2.text.2.text.2 w' h')
  unfold Rd.event
  generalize r.number = x1 at *
  obtain ⟨n1, r1⟩ := x1
  simp only at HN1 HN2 HN3 HT1 HT2 HT3 ⊢
  generalize r1.number = x2 at *
  obtain ⟨n2, r2⟩ := x2
  simp only at HN2 HN3 HT1 HT2 HT3 ⊢
  by_cases hk : n1 = 0
  · subst hk
    rw [if_neg (by simp)]
    generalize r2.text = x3 at *
    obtain ⟨t1, r3⟩ := x3
    simp only at HT1 HT2 HT3 ⊢
    generalize r3.text = x4 at *
    obtain ⟨t2, r4⟩ := x4
    simp only at HT2 HT3 ⊢
    generalize r4.text = x5 at *
    obtain ⟨t3, r5⟩ := x5
    simp only at HT3 ⊢
    clear h HN3
    go_enter Tryz.func62, Tryz.ntmps62
    go_wp2_with fail
    refine HN1.out.mono ?_
    rintro e w1 ⟨rfl, h1, g1⟩
    have hR1 : Blk w1 w.heap.size #[.int .i64 0, .int .i64 0, .string ⟨#[]⟩, .string ⟨#[]⟩, .string ⟨#[]⟩, .int .i64 0, .int .i64 0] 115 := (Blk.new w _ _).grown g1 (by simp; omega)
    have hE0 : ∀ cs, EvAt w (w1.alloc (.cells cs 115)) gr w1.heap.size r1 cs := fun cs => ⟨Blk.alloc h1 _, hR1.alloc _, Blk.new w1 _ _, grown_alloc (grown_trans (grown_alloc (grown_refl w _) _) g1) _, hR1.lt, hgr⟩
    have HE0 := hide hE0
    clear h1 g1 hR1 hE0
    go_wp2_with fail
    generalize hW2 : World.alloc w1 _ = W2
    have HE2 : Hid (EvAt w W2 gr w1.heap.size r1 #[.int .i64 0, .int .i64 0, .string ⟨#[]⟩, .string ⟨#[]⟩, .string ⟨#[]⟩, .int .i64 0, .int .i64 0]) := by rw [← hW2]; exact HE0.out _
    clear hW2 HE0 HN1
    generalize w1.heap.size = gE at *
    refine (HN2.out W2 HE2.out.rd).mono ?_
    rintro e w3 ⟨rfl, h3, g3⟩
    have HE3 := hide (HE2.out.call h3 g3)
    have c3 : w3.cell? ⟨gE, 1, none⟩ = some (.int .i64 0) := HE3.out.ev.cell 1
    have f3 := HE3.out.ev.frozen 1
    clear h3 g3 HE2
    go_wp2_with fail
    generalize hW4 : w3.setCell ⟨gE, 1, none⟩ _ = W4
    have HE4 : Hid (EvAt w W4 gr gE r2 #[.int .i64 0, .int .i64 n2, .string ⟨#[]⟩, .string ⟨#[]⟩, .string ⟨#[]⟩, .int .i64 0, .int .i64 0]) := by rw [← hW4]; exact HE3.out.set 1 (.int .i64 n2)
    clear hW4 HE3 c3 f3
    refine (HT1.out W4 HE4.out.rd).mono ?_
    rintro e w5 ⟨rfl, h5, g5⟩
    have HE5 := hide (HE4.out.call h5 g5)
    have c5 : w5.cell? ⟨gE, 2, none⟩ = some (.string ⟨#[]⟩) := HE5.out.ev.cell 2
    have f5 := HE5.out.ev.frozen 2
    clear h5 g5 HE4
    go_wp2_with fail
    generalize hW6 : w5.setCell ⟨gE, 2, none⟩ _ = W6
    have HE6 : Hid (EvAt w W6 gr gE r3 #[.int .i64 0, .int .i64 n2, encStr t1, .string ⟨#[]⟩, .string ⟨#[]⟩, .int .i64 0, .int .i64 0]) := by rw [← hW6]; exact HE5.out.set 2 (encStr t1)
    clear hW6 HE5 c5 f5
    refine (HT2.out W6 HE6.out.rd).mono ?_
    rintro e w7 ⟨rfl, h7, g7⟩
    have HE7 := hide (HE6.out.call h7 g7)
    have c7 : w7.cell? ⟨gE, 3, none⟩ = some (.string ⟨#[]⟩) := HE7.out.ev.cell 3
    have f7 := HE7.out.ev.frozen 3
    clear h7 g7 HE6
    go_wp2_with fail
    generalize hW8 : w7.setCell ⟨gE, 3, none⟩ _ = W8
    have HE8 : Hid (EvAt w W8 gr gE r4 #[.int .i64 0, .int .i64 n2, encStr t1, encStr t2, .string ⟨#[]⟩, .int .i64 0, .int .i64 0]) := by rw [← hW8]; exact HE7.out.set 3 (encStr t2)
    clear hW8 HE7 c7 f7
    refine (HT3.out W8 HE8.out.rd).mono ?_
    rintro e w9 ⟨rfl, h9, g9⟩
    have HE9 := hide (HE8.out.call h9 g9)
    have HE10 : Hid (EvAt w (w9.setCell ⟨gE, 4, none⟩ (encStr t3)) gr gE r5 #[.int .i64 0, .int .i64 n2, encStr t1, encStr t2, encStr t3, .int .i64 0, .int .i64 0]) := HE9.out.set 4 (encStr t3)
    have hne : ¬ (w.heap.size = gE) := fun e => by have := HE9.out.lt; omega
    have hne2 : ¬ (gE = w.heap.size) := fun e => hne e.symm
    have e0 : w9.cell? ⟨gE, 0, none⟩ = some (.int .i64 0) := HE9.out.ev.cell 0
    have e1 : w9.cell? ⟨gE, 1, none⟩ = some (.int .i64 n2) := HE9.out.ev.cell 1
    have e2 : w9.cell? ⟨gE, 2, none⟩ = some (encStr t1) := HE9.out.ev.cell 2
    have e3 : w9.cell? ⟨gE, 3, none⟩ = some (encStr t2) := HE9.out.ev.cell 3
    have e4 : w9.cell? ⟨gE, 4, none⟩ = some (.string ⟨#[]⟩) := HE9.out.ev.cell 4
    have e5 : w9.cell? ⟨gE, 5, none⟩ = some (.int .i64 0) := HE9.out.ev.cell 5
    have e6 : w9.cell? ⟨gE, 6, none⟩ = some (.int .i64 0) := HE9.out.ev.cell 6
    have f6 := HE9.out.ev.frozen 4
    have p0 : w9.cell? ⟨w.heap.size, 0, none⟩ = some (.int .i64 0) := HE9.out.res.cell 0
    have p1 : w9.cell? ⟨w.heap.size, 1, none⟩ = some (.int .i64 0) := HE9.out.res.cell 1
    have p2 : w9.cell? ⟨w.heap.size, 2, none⟩ = some (.string ⟨#[]⟩) := HE9.out.res.cell 2
    have p3 : w9.cell? ⟨w.heap.size, 3, none⟩ = some (.string ⟨#[]⟩) := HE9.out.res.cell 3
    have p4 : w9.cell? ⟨w.heap.size, 4, none⟩ = some (.string ⟨#[]⟩) := HE9.out.res.cell 4
    have p5 : w9.cell? ⟨w.heap.size, 5, none⟩ = some (.int .i64 0) := HE9.out.res.cell 5
    have p6 : w9.cell? ⟨w.heap.size, 6, none⟩ = some (.int .i64 0) := HE9.out.res.cell 6
    have rf := fun o => HE9.out.res.frozen o
    clear h9 g9 HE8 HE9
    go_wp2_with fail
    obtain ⟨q1, q2, q3⟩ := HE10.out.out (.int .i64 0) (.int .i64 n2) (encStr t1) (encStr t2) (encStr t3) (.int .i64 0) (.int .i64 0)
    refine bodyPost_ret (v := .agg #[.int .i64 0, .int .i64 n2, encStr t1, encStr t2, encStr t3, .int .i64 0, .int .i64 0]) (results_cell1 Tryz.results62 rfl (run_loadVar_mid _ _ 0 115 [.int .i64 0, .int .i64 n2, encStr t1, encStr t2, encStr t3, .int .i64 0, .int .i64 0] _ (q1.range 0 _ rfl) Tryz.underlying115 rfl infoEv)) rfl ⟨rfl, q2, q3⟩
  · rw [if_pos hk]
    generalize r2.number = x3 at *
    obtain ⟨n3, r3⟩ := x3
    simp only at HN3 ⊢
    clear h HT1 HT2 HT3
    go_enter Tryz.func62, Tryz.ntmps62
    go_wp2_with fail
    refine HN1.out.mono ?_
    rintro e w1 ⟨rfl, h1, g1⟩
    have hR1 : Blk w1 w.heap.size #[.int .i64 0, .int .i64 0, .string ⟨#[]⟩, .string ⟨#[]⟩, .string ⟨#[]⟩, .int .i64 0, .int .i64 0] 115 := (Blk.new w _ _).grown g1 (by simp; omega)
    have hE0 : ∀ cs, EvAt w (w1.alloc (.cells cs 115)) gr w1.heap.size r1 cs := fun cs => ⟨Blk.alloc h1 _, hR1.alloc _, Blk.new w1 _ _, grown_alloc (grown_trans (grown_alloc (grown_refl w _) _) g1) _, hR1.lt, hgr⟩
    have HE0 := hide hE0
    clear h1 g1 hR1 hE0
    go_wp2_with fail
    generalize hW2 : World.alloc w1 _ = W2
    have HE2 : Hid (EvAt w W2 gr w1.heap.size r1 #[.int .i64 n1, .int .i64 0, .string ⟨#[]⟩, .string ⟨#[]⟩, .string ⟨#[]⟩, .int .i64 0, .int .i64 0]) := by rw [← hW2]; exact HE0.out _
    clear hW2 HE0 HN1
    generalize w1.heap.size = gE at *
    refine (HN2.out W2 HE2.out.rd).mono ?_
    rintro e w3 ⟨rfl, h3, g3⟩
    have HE3 := hide (HE2.out.call h3 g3)
    have c5 : w3.cell? ⟨gE, 5, none⟩ = some (.int .i64 0) := HE3.out.ev.cell 5
    have f5 := HE3.out.ev.frozen 5
    clear h3 g3 HE2
    go_wp2_with fail
    generalize hW4 : w3.setCell ⟨gE, 5, none⟩ _ = W4
    have HE4 : Hid (EvAt w W4 gr gE r2 #[.int .i64 n1, .int .i64 0, .string ⟨#[]⟩, .string ⟨#[]⟩, .string ⟨#[]⟩, .int .i64 n2, .int .i64 0]) := by rw [← hW4]; exact HE3.out.set 5 (.int .i64 n2)
    clear hW4 HE3 c5 f5
    refine (HN3.out W4 HE4.out.rd).mono ?_
    rintro e w5 ⟨rfl, h5, g5⟩
    have HE5 := hide (HE4.out.call h5 g5)
    have HE6 : Hid (EvAt w (w5.setCell ⟨gE, 6, none⟩ (.int .i64 n3)) gr gE r3 #[.int .i64 n1, .int .i64 0, .string ⟨#[]⟩, .string ⟨#[]⟩, .string ⟨#[]⟩, .int .i64 n2, .int .i64 n3]) := HE5.out.set 6 (.int .i64 n3)
    have hne : ¬ (w.heap.size = gE) := fun e => by have := HE5.out.lt; omega
    have hne2 : ¬ (gE = w.heap.size) := fun e => hne e.symm
    have e0 : w5.cell? ⟨gE, 0, none⟩ = some (.int .i64 n1) := HE5.out.ev.cell 0
    have e1 : w5.cell? ⟨gE, 1, none⟩ = some (.int .i64 0) := HE5.out.ev.cell 1
    have e2 : w5.cell? ⟨gE, 2, none⟩ = some (.string ⟨#[]⟩) := HE5.out.ev.cell 2
    have e3 : w5.cell? ⟨gE, 3, none⟩ = some (.string ⟨#[]⟩) := HE5.out.ev.cell 3
    have e4 : w5.cell? ⟨gE, 4, none⟩ = some (.string ⟨#[]⟩) := HE5.out.ev.cell 4
    have e5 : w5.cell? ⟨gE, 5, none⟩ = some (.int .i64 n2) := HE5.out.ev.cell 5
    have e6 : w5.cell? ⟨gE, 6, none⟩ = some (.int .i64 0) := HE5.out.ev.cell 6
    have f6 := HE5.out.ev.frozen 6
    have r0 : w5.cell? ⟨w.heap.size, 0, none⟩ = some (.int .i64 0) := HE5.out.res.cell 0
    have r1' : w5.cell? ⟨w.heap.size, 1, none⟩ = some (.int .i64 0) := HE5.out.res.cell 1
    have r2' : w5.cell? ⟨w.heap.size, 2, none⟩ = some (.string ⟨#[]⟩) := HE5.out.res.cell 2
    have r3' : w5.cell? ⟨w.heap.size, 3, none⟩ = some (.string ⟨#[]⟩) := HE5.out.res.cell 3
    have r4' : w5.cell? ⟨w.heap.size, 4, none⟩ = some (.string ⟨#[]⟩) := HE5.out.res.cell 4
    have r5' : w5.cell? ⟨w.heap.size, 5, none⟩ = some (.int .i64 0) := HE5.out.res.cell 5
    have r6' : w5.cell? ⟨w.heap.size, 6, none⟩ = some (.int .i64 0) := HE5.out.res.cell 6
    have rf := fun o => HE5.out.res.frozen o
    clear h5 g5 HE4 HE5
    go_wp2_with fail
    obtain ⟨q1, q2, q3⟩ := HE6.out.out (.int .i64 n1) (.int .i64 0) (.string ⟨#[]⟩) (.string ⟨#[]⟩) (.string ⟨#[]⟩) (.int .i64 n2) (.int .i64 n3)
    refine bodyPost_ret (v := .agg #[.int .i64 n1, .int .i64 0, .string ⟨#[]⟩, .string ⟨#[]⟩, .string ⟨#[]⟩, .int .i64 n2, .int .i64 n3]) (results_cell1 Tryz.results62 rfl (run_loadVar_mid _ _ 0 115 [.int .i64 n1, .int .i64 0, .string ⟨#[]⟩, .string ⟨#[]⟩, .string ⟨#[]⟩, .int .i64 n2, .int .i64 n3] _ (q1.range 0 _ rfl) Tryz.underlying115 rfl infoEv)) rfl ⟨rfl, q2, q3⟩
end Go.Proofs.YtojpjaifhjigfabGreatDoor

/- conduitref.names: the names of a map, each once. -/
namespace Go.Proofs.YtojpjaifhjigfabGreatDoor
open Go.RowKit Go.Maps

theorem infoString : (Tryz.prog.info? 9).map (fun i => (i.zero, i.size, i.bytes)) = some (some (.string ⟨#[]⟩), 1, 16) := by kernel_rfl

/-- The slice value v holds these texts, in memory from block B on. -/
def Texts (w : World) (B : Nat) (v : Value) (ss : List (List UInt8)) : Prop := w.ownsRow B 9 1 v ss.length (ss.map encStr)

theorem Texts.mono_base {w : World} {B B' : Nat} {v : Value} {ss : List (List UInt8)} (h : Texts w B v ss) (hB : B' ≤ B) : Texts w B' v ss := by
  refine ⟨h.1, ?_⟩
  rcases h.2 with h1 | ⟨g, cap, cur, h1, h2, h3⟩
  · exact Or.inl h1
  · exact Or.inr ⟨g, cap, cur, h1, Nat.le_trans hB h2, h3⟩
theorem Texts.shape {w : World} {B : Nat} {v : Value} {ss : List (List UInt8)} (h : Texts w B v ss) : ∃ a c, v = .slice a ss.length c := by
  rcases h.2 with ⟨rfl, h0⟩ | ⟨g, cap, cur, rfl, _⟩
  · exact ⟨none, 0, by rw [h0]⟩
  · exact ⟨_, _, rfl⟩

/-- Block g holds these texts, one a cell, with room for cap. -/
def RowS (w : World) (g cap : Nat) (ys : List (List UInt8)) : Prop := ∃ cur, Blk w g cur 9 ∧ cur.size = cap ∧ ys.length ≤ cap ∧ cap ≤ maxLen ∧ cur.toList.take ys.length = ys.map encStr
theorem RowS.of {w : World} {B g cap : Nat} {ys : List (List UInt8)} (h : w.ownsRow B 9 1 (.slice (some ⟨g, 0, none⟩) ys.length cap) ys.length (ys.map encStr)) : RowS w g cap ys := by
  rcases h.2 with ⟨h1, _⟩ | ⟨g', cap', cur, h1, _, h2, h3, h4, h5, h6⟩
  · cases h1
  · simp only [Value.slice.injEq, Option.some.injEq, Addr.mk.injEq, and_true, true_and] at h1
    obtain ⟨rfl, rfl⟩ := h1
    exact ⟨cur, h2, by simpa using h5, h3, h4, by simpa using h6⟩
theorem RowS.texts {w : World} {B g cap : Nat} {ys : List (List UInt8)} (h : RowS w g cap ys) (hB : B ≤ g) : Texts w B (.slice (some ⟨g, 0, none⟩) ys.length cap) ys := by
  obtain ⟨cur, h1, h2, h3, h4, h5⟩ := h
  exact ⟨by simp, Or.inr ⟨g, cap, cur, rfl, hB, h1, h3, h4, by simpa using h2, by simpa using h5⟩⟩
theorem RowS.cell {w : World} {g cap : Nat} {ys : List (List UInt8)} (h : RowS w g cap ys) (j : Nat) (hj : j < ys.length) : w.cell? ⟨g, j, none⟩ = some (encStr (ys[j]'hj)) := by
  obtain ⟨cur, h1, h2, h3, h4, h5⟩ := h
  rw [h1.cell j]
  have e : (cur.toList.take ys.length)[j]? = (ys.map encStr)[j]? := by rw [h5]
  rw [List.getElem?_take_of_lt hj, List.getElem?_map, List.getElem?_eq_getElem hj] at e
  simpa using e
theorem RowS.frozen {w : World} {g cap : Nat} {ys : List (List UInt8)} (h : RowS w g cap ys) (j : Nat) : w.frozen? ⟨g, j, none⟩ = false := by
  obtain ⟨cur, h1, _⟩ := h
  exact h1.frozen j
theorem RowS.set {w : World} {g cap : Nat} {ys : List (List UInt8)} (h : RowS w g cap ys) (k : Nat) (y : List UInt8) : RowS (w.setCell ⟨g, k, none⟩ (encStr y)) g cap (ys.set k y) := by
  obtain ⟨cur, h1, h2, h3, h4, h5⟩ := h
  refine ⟨_, h1.set k _, by simpa using h2, by simpa using h3, h4, ?_⟩
  rw [Array.toList_setIfInBounds, List.length_set, List.take_set, h5, List.map_set]

theorem rg_set {w : World} {b r n : Nat} {D : DataW Unit} {left : Lit → Bool} {cnt g : Nat} (h : RG w b r n D left cnt) (hb : b ≠ g) (hr : r ≠ g) (i : Nat) (v : Value) : RG (w.setCell ⟨g, i, none⟩ v) b r n D left cnt := by
  obtain ⟨es, clock, since, seen, c0, k1, k2, k3, k4, k5, k6⟩ := h
  exact ⟨es, clock, since, seen, c0, by rw [heap_setCell_other _ _ _ _ hb]; exact k1, k2, k3, k4, by rw [heap_setCell_other _ _ _ _ hr]; exact k5, k6⟩

theorem perm_shift (ys : List (List UInt8)) (j : Nat) (x : List UInt8) (h : j + 1 < ys.length) : ((ys.set (j + 1) (ys[j]'(by omega))).set j x).Perm (ys.set (j + 1) x) := by
  have hl : j + 1 < (ys.set (j + 1) x).length := by simpa using h
  have hl' : j < (ys.set (j + 1) x).length := by omega
  have : (((ys.set (j + 1) x).set (j + 1) ((ys.set (j + 1) x)[j]'hl')).set j ((ys.set (j + 1) x)[j + 1]'hl)).Perm (ys.set (j + 1) x) := List.set_set_perm hl hl'
  simpa using this

/-- A text goes where it belongs. -/
theorem insert_sorted {ys ss : List (List UInt8)} {x : List UInt8} {k : Nat} (hk : k < ys.length) (he : ys.take k ++ ys.drop (k + 1) = ss) (hs : ss.Pairwise (fun a b => a ≤ b)) (hB : ∀ y ∈ ys.drop (k + 1), x ≤ y) (hA : ∀ a ∈ ys.take k, a ≤ x) : (ys.set k x).Pairwise (fun a b => a ≤ b) := by
  rw [List.set_eq_take_append_cons_drop, if_pos hk]
  rw [← he, List.pairwise_append] at hs
  rw [List.pairwise_append]
  refine ⟨hs.1, List.pairwise_cons.2 ⟨hB, hs.2.1⟩, fun a ha b hb => ?_⟩
  rcases List.mem_cons.1 hb with rfl | hb
  · exact hA a ha
  · exact hs.2.2 a ha b hb
theorem take_le {ys ss : List (List UInt8)} {x : List UInt8} {j : Nat} (hj : j < ys.length) (he : ys.take (j + 1) ++ ys.drop (j + 1 + 1) = ss) (hs : ss.Pairwise (fun a b => a ≤ b)) (hx : ys[j] ≤ x) : ∀ a ∈ ys.take (j + 1), a ≤ x := by
  rw [← he, List.pairwise_append] at hs
  have h1 := hs.1
  rw [List.take_succ_eq_append_getElem hj, List.pairwise_append] at h1
  intro a ha
  rw [List.take_succ_eq_append_getElem hj] at ha
  rcases List.mem_append.1 ha with h | h
  · exact List.le_trans (h1.2.2 a h ys[j] (by simp)) hx
  · obtain rfl := List.mem_singleton.1 h
    exact hx
theorem shift_hole {ys : List (List UInt8)} {j : Nat} (h : j + 1 < ys.length) : (ys.set (j + 1) (ys[j]'(by omega))).take j ++ (ys.set (j + 1) (ys[j]'(by omega))).drop (j + 1) = ys.take (j + 1) ++ ys.drop (j + 1 + 1) ∧ (ys.set (j + 1) (ys[j]'(by omega))).drop (j + 1) = ys[j]'(by omega) :: ys.drop (j + 1 + 1) := by
  have e : (ys.set (j + 1) (ys[j]'(by omega))).drop (j + 1) = ys[j]'(by omega) :: ys.drop (j + 1 + 1) := by
    rw [List.set_eq_take_append_cons_drop, if_pos h, List.drop_append_of_le_length (by simp; omega), List.drop_of_length_le (by simp; omega), List.nil_append]
  refine ⟨?_, e⟩
  rw [e, List.take_set_of_le (by omega)]
  have e2 := List.take_succ_eq_append_getElem (show j < ys.length by omega)
  rw [e2]
  simp only [List.append_assoc, List.singleton_append]

end Go.Proofs.YtojpjaifhjigfabGreatDoor

/- conduitref.Good: is it a configuration? -/
namespace Go.Proofs.YtojpjaifhjigfabGreatDoor
open Go.RowKit Go.Maps

theorem mem_strKeys {w : World} {b n : Nat} {D : DataW Unit} (h : OM w b n D) (x : List UInt8) : x ∈ strKeys D ↔ Maps.has D (.string x) = true := by
  obtain ⟨es, rfl, hk⟩ := h.keysOf
  have hk' : ∀ p ∈ es, ∃ y, p.1 = .string y := fun p hp => by
    obtain ⟨v, hv⟩ := hk p hp
    obtain ⟨y, _, hy, _⟩ := Maps.keyOf_str Tryz.underlying9 hv
    exact ⟨y, hy⟩
  rw [has_eq, List.any_eq_true]
  show x ∈ es.map (fun p => strOf p.1) ↔ _
  rw [List.mem_map]
  constructor
  · rintro ⟨p, hp, rfl⟩
    obtain ⟨y, hy⟩ := hk' p hp
    exact ⟨p, hp, by rw [hy]; simp [Lit.sameKey, strOf]⟩
  · rintro ⟨p, hp, hs⟩
    obtain ⟨y, hy⟩ := hk' p hp
    rw [hy] at hs
    exact ⟨p, hp, by rw [hy]; simpa [Lit.sameKey, strOf] using hs⟩
theorem size_strKeys {w : World} {b n : Nat} {D : DataW Unit} (h : OM w b n D) : (strKeys D).length = Maps.size D := by
  obtain ⟨es, rfl, _⟩ := h.keysOf
  simp [strKeys, Maps.size]
theorem keyOfStr {x : List UInt8} (h : x.length ≤ maxLen) : keyOf Tryz.prog 9 (encStr x) = some (.string x) := by
  simp [keyOf, Tryz.underlying9, mapKey, encStr, ByteArray.size, h]

/-- What stands at a key that is there, and that a look-up finds it in every world in which the map lies so. -/
theorem look_at {w : World} {b n : Nat} {D : DataW Unit} (h : OM w b n D) {x : List UInt8} (hx : Maps.has D (.string x) = true) :
    ∃ c, At D x c ∧ ∀ w' n', OM w' b n' D → (Instr.lookup 27 (.map (some b)) (encStr x) false).run Tryz.prog w' = .ok (.int .i64 c) w' := by
  have hl : x.length ≤ maxLen := strKeys_le h Tryz.underlying9 x ((mem_strKeys h x).2 hx)
  have hkey := keyOfStr hl
  obtain ⟨c, _, hat, _⟩ := h.lookup_int lawS Tryz.underlying27 Tryz.underlying3 (zeroInt w) hkey
  have hAt : At D x c := fun zd => by
    rw [← hat]
    obtain ⟨es, rfl, _⟩ := h.keysOf
    rw [has_eq, List.any_eq_true] at hx
    obtain ⟨p, hp, hs⟩ := hx
    cases hf : es.find? (fun p => p.1.sameKey (.string x)) with
    | none => exact absurd hs (by have := List.find?_eq_none.1 hf p hp; simpa using this)
    | some q => simp [DataW.atKey, hf]
  refine ⟨c, hAt, fun w' n' h' => ?_⟩
  obtain ⟨c', hrun, hat', _⟩ := h'.lookup_int lawS Tryz.underlying27 Tryz.underlying3 (zeroInt w') hkey
  have : c = c' := by
    have := hat.symm.trans hat'
    simpa using this
  rw [this]; exact hrun

theorem Texts.head {w : World} {B : Nat} {a : Option Addr} {c : Nat} {ss : List (List UInt8)} (h : Texts w B (.slice a ss.length c) ss) (h0 : 0 < ss.length) : ∃ g, a = some ⟨g, 0, none⟩ ∧ RowS w g c ss ∧ B ≤ g := by
  rcases h.2 with ⟨_, h1⟩ | ⟨g, cap, cur, h1, h2, _⟩
  · omega
  · simp only [Value.slice.injEq, true_and] at h1
    obtain ⟨rfl, rfl⟩ := h1
    exact ⟨g, rfl, RowS.of h, h2⟩

/-- It answers whether p holds. -/
def BoolIff (e : Ending) (p : Prop) : Prop := ∃ r, e = .returned (.bool r) ∧ (r = true ↔ p)
theorem BoolIff.no {p : Prop} (h : ¬ p) : BoolIff (.returned (.bool false)) p := ⟨false, rfl, by simp [h]⟩
theorem BoolIff.yes {p : Prop} (h : p) : BoolIff (.returned (.bool true)) p := ⟨true, rfl, by simp [h]⟩
theorem BoolIff.mk {p : Prop} {r : Bool} (h : r = true ↔ p) : BoolIff (.returned (.bool r)) p := ⟨r, rfl, h⟩

/-- The numbers besides the map, in the order in which Good asks. -/
def Cfg.firstB (c : Cfg) (n : Nat) : Bool := decide (1 ≤ c.d) && decide (c.d ≤ 4) && decide (1 ≤ (n : Int)) && decide ((n : Int) ≤ 8) && decide (1 ≤ c.q) && decide (c.q ≤ 120) && decide (1 ≤ c.at') && decide (c.at' ≤ 10)
def Cfg.timesB (c : Cfg) : Bool := decide (1 ≤ c.ba) && decide (c.ba ≤ c.ca) && decide (c.ca ≤ 60000) && decide (1 ≤ c.ti) && decide (c.ti ≤ 60000) && decide (1 ≤ c.op) && decide (c.op ≤ 60000)
def Cfg.restB (c : Cfg) : Bool := decide (1 ≤ c.wi) && decide (c.wi ≤ 64) && decide (1 ≤ c.le) && decide (c.le ≤ c.wi) && thB c.th

theorem Cfg.good_iff (c : Cfg) (n : Nat) : (c.firstB n && c.timesB && c.restB) = true ↔ c.numB = true ∧ (1 ≤ n ∧ n ≤ 8) ∧ thB c.th = true := by
  simp only [Cfg.firstB, Cfg.timesB, Cfg.restB, Cfg.numB, Cfg.nums, inB, List.all_cons, List.all_nil, Bool.and_eq_true, decide_eq_true_eq, Bool.and_true]
  constructor
  · rintro ⟨⟨⟨⟨⟨⟨⟨⟨⟨a1, a2⟩, a3⟩, a4⟩, a5⟩, a6⟩, a7⟩, a8⟩, ⟨⟨⟨⟨⟨⟨b1, b2⟩, b3⟩, b4⟩, b5⟩, b6⟩, b7⟩⟩, ⟨⟨⟨⟨c1, c2⟩, c3⟩, c4⟩, c5⟩⟩
    exact ⟨⟨⟨a1, a2⟩, ⟨a5, a6⟩, ⟨a7, a8⟩, ⟨by omega, b3⟩, ⟨b1, b2⟩, ⟨b4, b5⟩, ⟨b6, b7⟩, ⟨c1, c2⟩, ⟨c3, c4⟩⟩, ⟨by omega, by omega⟩, c5⟩
  · rintro ⟨⟨⟨a1, a2⟩, ⟨a5, a6⟩, ⟨a7, a8⟩, ⟨_, b3⟩, ⟨b1, b2⟩, ⟨b4, b5⟩, ⟨b6, b7⟩, ⟨c1, c2⟩, ⟨c3, c4⟩⟩, ⟨d1, d2⟩, c5⟩
    exact ⟨⟨⟨⟨⟨⟨⟨⟨⟨a1, a2⟩, by omega⟩, by omega⟩, a5⟩, a6⟩, a7⟩, a8⟩, ⟨⟨⟨⟨⟨⟨b1, b2⟩, b3⟩, b4⟩, b5⟩, b6⟩, b7⟩⟩, ⟨⟨⟨⟨c1, c2⟩, c3⟩, c4⟩, c5⟩⟩

end Go.Proofs.YtojpjaifhjigfabGreatDoor
