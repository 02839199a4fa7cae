/- Steps of the proof (several texts in one): ProofBase, ShortWay, Compact, Tri, TriCalls, TriWalk. -/
import Derived.Test.YtojpjaifhjigfaaGreatDoorRows
import Derived.Test.YtojpjaifhjigfaaGreatDoorCards
import Derived.Test.YtojpjaifhjigfaaGreatDoorTie
import Derived.Test.YtojpjaifhjigfaaGreatDoorMTried01
import Derived.ProofKit
import Derived.LaidMore
import Derived.OpenShut
import Derived.Stop.Joined
import Derived.SevenTiedAt
import Derived.Test.YtojpjaifhjigfaaGreatDoorMTried06
import Derived.Test.YtojpjaifhjigfaaGreatDoorMTried09
import Derived.Test.YtojpjaifhjigfaaGreatDoorMTried10

/- What every proof over this seat takes of the rows: the listed error variables, and a world that meets them. -/
namespace Go.Proofs.YtojpjaifhjigfaaGreatDoor
open Go.ChangeShapes Go.WideShapes Go.ChangeAt Go.WideMaps Go.WideElems Go.RowKit

theorem own : ownKnob Tryz.prog.godebug = none := by kernel_rfl
theorem cells142 : Tryz.prog.cellsOf 274 = 1 := by kernel_rfl
theorem cells9 : Tryz.prog.cellsOf 9 = 1 := by kernel_rfl
theorem star : "*" ++ "errors.errorString" = "*errors.errorString" := by decide
theorem row121 (u : TypeId) (h : Tryz.prog.typeName? 3 u = some "*errors.errorString") : u = 260 :=
  typeName_ptr_named (nm := "errors.errorString") (by rw [star]; kernel_rfl) (by kernel_rfl) (by decide) u (by rw [star]; exact h)

/-- The listed variables, as the condition has them. -/
abbrev laidAll : List (String × DataW Unit) := Rows.opensRow.laid

theorem listed : Sents.Listed Tryz.prog 71 "*errors.errorString" gl laidAll :=
  ⟨⟨_, rfl⟩, by kernel_rfl, by kernel_rfl, ⟨_, rfl⟩, by kernel_rfl, by kernel_rfl, ⟨_, rfl⟩, by kernel_rfl, by kernel_rfl, ⟨_, rfl⟩, by kernel_rfl, by kernel_rfl, ⟨_, rfl⟩, by kernel_rfl, by kernel_rfl, ⟨_, rfl⟩, by kernel_rfl, by kernel_rfl,
   ⟨_, rfl⟩, by kernel_rfl, by kernel_rfl, ⟨_, rfl⟩, by kernel_rfl, by kernel_rfl, ⟨_, rfl⟩, by kernel_rfl, by kernel_rfl, ⟨_, rfl⟩, by kernel_rfl, by kernel_rfl, ⟨_, rfl⟩, by kernel_rfl, by kernel_rfl, trivial⟩

theorem sents_of {W : World} (h : laidMetH Tryz.prog laidAll W) : ∃ A : Nat → Addr, Sents.Holds W 260 gl 11 A := by
  rw [MakeChecks.laidMetH_plain _ _ _ (by kernel_rfl)] at h
  exact Sents.of_laid Tryz.underlying71 row121 Tryz.underlying260 Tryz.underlying274 rfl rfl Tryz.underlying9 cells142 cells9 listed h

/-- The door's own heap meets the condition. -/
theorem door_met (os : Os) (args : Array Value) : laidMetH Tryz.prog laidAll ((World.doorLaid Tryz.prog 400 os).forCall (fun _ _ => 0) ⟨#[], args, []⟩).memory :=
  laidMetH_of_parts3 (fuel := 8) (laidMet_of_run' 8 (by kernel_rfl) (by kernel_rfl)) (by kernel_rfl) (by kernel_rfl)

end Go.Proofs.YtojpjaifhjigfaaGreatDoor

/- shortWay: two events a batch at most. -/
namespace Go.Proofs.YtojpjaifhjigfaaGreatDoor
open Go.RowKit Go.Maps

theorem ownsRow_base {w : World} {base : Nat} {e : TypeId} {size : Nat} {v : Value} {n : Nat} {xs : List Value} (h : w.ownsRow base e size v n xs) : ∀ j, v.ownBlock = some j → base ≤ j := fun j hj => by
  rcases h.2 with ⟨rfl, _⟩ | ⟨g, cap, cur, rfl, hg, _⟩
  · simp [Value.ownBlock] at hj
  · have : g = j := by simpa [Value.ownBlock] using hj
    omega

/-- A batch was taken. -/
def tookEv (b : Bat) : Ev := ⟨0, b, 0, 0⟩
/-- What has become of it, if it is not dead. -/
def endEv (p : Nat) (b : Bat) : List Ev := if b.st = 2 then [Ev.of 1 p b.fl.toNat] else if b.st = 1 ∧ 0 < b.fl then [Ev.of 2 p b.fl.toNat] else []
def endsOf (bs : List Bat) : Nat → List Ev
  | 0 => []
  | k + 1 => endsOf bs k ++ match bs[k]? with | some b => endEv k b | none => []
def diedEv (bs : List Bat) (p : Nat) : Ev := Ev.of 3 p (((bs[p]?).map (·.fl.toNat)).getD 0)
/-- The short way to what an agent has. -/
def Ag.way (M : Ag) : List Ev := M.bs.map tookEv ++ endsOf M.bs M.bs.length ++ M.dead.map (diedEv M.bs)
theorem endsOf_le (bs : List Bat) : ∀ k, (endsOf bs k).length ≤ k
  | 0 => Nat.le_refl _
  | k + 1 => by
    have := endsOf_le bs k
    unfold endsOf
    rw [List.length_append]
    have h2 : (match bs[k]? with | some b => endEv k b | none => []).length ≤ 1 := by
      cases bs[k]? with
      | none => simp
      | some b => simp only [endEv]; split; exact Nat.le_refl _; split; exact Nat.le_refl _; simp
    omega
def Ways (w w' : World) (es : List Ev) (e : Ending) : Prop := ∃ v, e = .returned v ∧ w'.ownsRow w.heap.size 151 7 v es.length (es.flatMap Ev.cells) ∧ Below w.heap.size w w'
/-- Events in a row of the function's own. -/
def EvsAt (w wr : World) (v : Value) (es : List Ev) : Prop := wr.ownsRow w.heap.size 151 7 v es.length (es.flatMap Ev.cells) ∧ Below w.heap.size w wr
theorem EvsAt.more {w wr w2 w3 : World} {v : Value} {es : List Ev} {e : Ev} {n g3 cap3 : Nat} (h : EvsAt w wr v es) (hn : es.length = n) (hb : Below wr.heap.size wr w2) (ho : w3.ownsRow w.heap.size 151 7 (.slice (some ⟨g3, 0, none⟩) (n + 1) cap3) (n + 1) (es.flatMap Ev.cells ++ e.cells)) (hg : w2.grownBy w3 v.ownBlock) : EvsAt w w3 (.slice (some ⟨g3, 0, none⟩) (n + 1) cap3) (es ++ [e]) := by
  refine ⟨?_, ((h.2.trans (hb.mono h.2.size))).grown hg (Nat.le_trans h.2.size hb.size) (fun j hj => ownsRow_base h.1 j hj)⟩
  rw [List.length_append, List.flatMap_append, hn]
  simpa using ho
theorem two_below (w : World) (o o' : Obj) : Below w.heap.size w ((w.alloc o).alloc o') := ((Below.refl _ _).alloc (Nat.le_refl _) _).alloc (by simp) _

set_option maxRecDepth 100000 in
set_option maxHeartbeats 2000000 in
theorem shortWay_any (L : Labs) (who g : Nat) (M : Ag) (w : World) (h : AgentAt w L who g M) (hd : ∀ p ∈ M.dead, p < M.bs.length) (hb : M.bs.length ≤ 120) (hdl : M.dead.length ≤ 120) (hfl : ∀ b ∈ M.bs, 0 ≤ b.fl) :
    Calls Tryz.prog 118 #[.pointer (some ⟨g, 0, none⟩)] w fun e w' => Ways w w' M.way e := by
  obtain ⟨bq, bm, cn, tv, dv, nv, rv, ov, h⟩ := h
  obtain ⟨da, dc, rfl, _⟩ := h.dd.shape
  obtain ⟨ta, tc, rfl, _⟩ := h.tk.shape
  have c0 : w.cell? ⟨g, 0, none⟩ = some (.slice ta M.bs.length tc) := h.blk.1.cell 0
  have c2 : w.cell? ⟨g, 2, none⟩ = some (.slice da M.dead.length dc) := h.blk.1.cell 2
  have hgl := h.blk.1.lt
  obtain ⟨i0, hi, hz0, hz1, hz2⟩ := info_parts infoEvent3
  have HD := hide hd
  have HH := hide h
  have HF := hide hfl
  have HC2 := hide c2
  generalize hn : M.dead.length = n at *
  generalize hm : M.bs.length = m at *
  have Hn := hide hn
  have Hm := hide hm
  clear hd h hn hm hfl c2
  go_enter Tryz.func118, Tryz.ntmps118
  go_wp2_with fail
  go_loopw [3, 15] (fun v i wr => ∃ (k : Nat) (ea : Option Addr) (ek : Nat), k ≤ m ∧ i = .int .i64 k ∧ v = .slice ea k ek ∧ EvsAt w wr (.slice ea k ek) ((M.bs.take k).map tookEv)) (fun _ i _ => m - (intOf i).toNat)
  case atStart => exact ⟨0, none, 0, Nat.zero_le _, rfl, rfl, World.ownsRow_nil _ _ _ _, Below.refl _ _⟩
  case round =>
    obtain ⟨k, ea, ek, hk, rfl, rfl, hE⟩ := hrel
    have HE := hide hE
    clear hE
    by_cases hlt : k < m
    · have hltI : (k : Int) < (m : Int) := by omega
      obtain ⟨gt, rfl, hgt, _, hct, _⟩ := (show RowAt w L (some (who, .tk)) 155 6 (.slice ta m tc) m (M.bs.flatMap Bat.cells) by have := HH.out.tk; rw [Hm.out] at this; exact this).head (by omega)
      obtain ⟨b, hb'⟩ : ∃ b, M.bs[k]? = some b := ⟨_, List.getElem?_eq_getElem (by rw [Hm.out]; exact hlt)⟩
      have HR : Hid (wr.rangeAt gt (k * 6) b.cells) := fun j v hv => by
        rw [HE.out.2.cell (p := ⟨gt, _, none⟩) hgt]
        exact hct _ _ (flat_cell Bat.cells 6 Bat.cells_length hb' (by have := (List.getElem?_eq_some_iff.1 hv).1; rw [Bat.cells_length] at this; exact this) hv)
      have hlen : ((M.bs.take k).map tookEv).length = k := by rw [List.length_map, List.length_take, Hm.out]; omega
      have hE := HE.out.1
      rw [hlen] at hE
      have HEr := hide hE
      have Hlen := hide hlen
      have Hb := hide hb'
      clear hct hb' hlen hE
      go_wp2_with (first
        | (refine wpList_load_mid rfl 155 _ rfl gt (k * 6) rfl [.int .i64 b.dst, encStr b.ten, encStr b.id, encStr b.body, .int .i64 b.st, .int .i64 b.fl] _ HR.out Tryz.underlying155 rfl infoPBatch ?_)
        | (at_builtin; refine wpList_append_lies _ rfl _ _ 140 rfl w.heap.size 151 i0 (.agg #[.int .i64 0, .int .i64 0, .string ⟨#[]⟩, .string ⟨#[]⟩, .string ⟨#[]⟩, .int .i64 0, .int .i64 0]) 7 80 Tryz.underlying140 hi hz0 hz1 hz2 rfl (by decide) (.slice ea k ek) k _ rfl ((HEr.out.alloc _).alloc _) ⟨wr.heap.size + 1, 0, none⟩ 1 1 (tookEv b).cells rfl rfl (World.news_of_block (cs := (tookEv b).cells.toArray) (t := 151) (fr := (0, 0)) (obj_new (by simp) _)) (by simp [Value.oneCell', Ev.cells, encStr]) (by decide) (by unfold maxLen; omega) (by omega) (by simp; have := HE.out.2.size; omega) (wr.heap.size + 2) (by simp) ?_; intro g3 cap3 w3 hown3 hg3 hat3 hlt3; have Ho3 := hide hown3; have Hg3 := hide hg3; clear hown3 hg3 hat3)
        | fail)
      go_roundw
      case rel =>
        refine ⟨k + 1, some ⟨g3, 0, none⟩, cap3, by omega, by go_num, rfl, ?_⟩
        have h3 := HE.out.more Hlen.out (two_below wr _ _) Ho3.out Hg3.out
        rw [List.take_add_one, Hb.out, List.map_append]
        exact h3
      case measure => simp [intOf]; omega
    · have hkm : k = m := by omega
      subst hkm
      have HE2 : Hid (EvsAt w wr (.slice ea k ek) (M.bs.map tookEv ++ endsOf M.bs 0)) := by
        have := HE.out
        rw [List.take_of_length_le (by rw [Hm.out]; exact Nat.le_refl _)] at this
        exact (show EvsAt w wr (.slice ea k ek) (M.bs.map tookEv ++ endsOf M.bs 0) by simpa [endsOf] using this)
      have e0 : wr.cell? ⟨g, 0, none⟩ = some (.slice ta k tc) := (HE2.out.2.cell (p := ⟨g, 0, none⟩) hgl).trans c0
      have HC0 := hide c0
      clear HE c0 hlt hk
      go_wp2_with fail
      clear e0
      go_loopw [3, 31] (fun v i wr => ∃ (j : Nat) (ea : Option Addr) (c ek : Nat), j ≤ k ∧ i = .int .i64 j ∧ v = .slice ea c ek ∧ (M.bs.map tookEv ++ endsOf M.bs j).length = c ∧ EvsAt w wr (.slice ea c ek) (M.bs.map tookEv ++ endsOf M.bs j)) (fun _ i _ => k - (intOf i).toNat)
      case atStart => exact ⟨0, ea, k, ek, Nat.zero_le _, rfl, rfl, by simp [endsOf, Hm.out], HE2.out⟩
      case round =>
        clear HE2
        obtain ⟨j, ea, c, ek, hj, rfl, rfl, hc, hE⟩ := hrel
        have HE := hide hE
        have hc240 : c ≤ 240 := by
          rw [← hc, List.length_append, List.length_map, Hm.out]
          have := endsOf_le M.bs j
          omega
        have HEr : Hid (wr.ownsRow w.heap.size 151 7 (.slice ea c ek) c ((M.bs.map tookEv ++ endsOf M.bs j).flatMap Ev.cells)) := by have := hE.1; rw [hc] at this; exact this
        have Hc := hide hc
        clear hE hc
        by_cases hlt : j < k
        · have hltI : (j : Int) < (k : Int) := by omega
          obtain ⟨gt, rfl, hgt, _, hct, _⟩ := (show RowAt w L (some (who, .tk)) 155 6 (.slice ta k tc) k (M.bs.flatMap Bat.cells) by have := HH.out.tk; rw [Hm.out] at this; exact this).head (by omega)
          obtain ⟨b, hb'⟩ : ∃ b, M.bs[j]? = some b := ⟨_, List.getElem?_eq_getElem (by rw [Hm.out]; exact hlt)⟩
          have HR : Hid (wr.rangeAt gt (j * 6) b.cells) := fun i v hv => by
            rw [HE.out.2.cell (p := ⟨gt, _, none⟩) hgt]
            exact hct _ _ (flat_cell Bat.cells 6 Bat.cells_length hb' (by have := (List.getElem?_eq_some_iff.1 hv).1; rw [Bat.cells_length] at this; exact this) hv)
          have hf0 := HF.out b (List.mem_of_getElem? hb')
          have Hsucc : Hid (endsOf M.bs (j + 1) = endsOf M.bs j ++ endEv j b) := by show _ = _; simp only [endsOf, hb']
          obtain ⟨d0, t0, id0, bo0, st0, fl0⟩ := b
          obtain ⟨f, rfl⟩ : ∃ f : Nat, fl0 = f := ⟨fl0.toNat, by simp at hf0; omega⟩
          clear hct hb' hf0
          by_cases hst2 : st0 = 2
          · subst hst2
            have Hev : Hid (endsOf M.bs (j + 1) = endsOf M.bs j ++ [Ev.of 1 j f]) := by rw [Hsucc.out]; rfl
            clear Hsucc
            go_wp2_with (first
              | (refine wpList_load_mid rfl 155 _ rfl gt (j * 6) rfl [.int .i64 d0, encStr t0, encStr id0, encStr bo0, .int .i64 2, .int .i64 f] _ HR.out Tryz.underlying155 rfl infoPBatch ?_)
              | (at_builtin; refine wpList_append_lies _ rfl _ _ 140 rfl w.heap.size 151 i0 (.agg #[.int .i64 0, .int .i64 0, .string ⟨#[]⟩, .string ⟨#[]⟩, .string ⟨#[]⟩, .int .i64 0, .int .i64 0]) 7 80 Tryz.underlying140 hi hz0 hz1 hz2 rfl (by decide) (.slice ea c ek) c _ rfl ((HEr.out.alloc _).alloc _) ⟨wr.heap.size + 1, 0, none⟩ 1 1 (Ev.of 1 j f).cells rfl rfl (World.news_of_block (cs := (Ev.of 1 j f).cells.toArray) (t := 151) (fr := (0, 0)) (obj_new (by simp) _)) (by simp [Value.oneCell', Ev.cells, encStr, Ev.of, noBat]) (by decide) (by unfold maxLen; omega) (by omega) (by simp; have := HE.out.2.size; omega) (wr.heap.size + 2) (by simp) ?_; intro g3 cap3 w3 hown3 hg3 hat3 hlt3; have Ho3 := hide hown3; have Hg3 := hide hg3; clear hown3 hg3 hat3)
              | fail)
            go_roundw
            case rel =>
              refine ⟨j + 1, some ⟨g3, 0, none⟩, c + 1, cap3, by omega, by go_num, rfl, ?_, ?_⟩
              · rw [Hev.out, ← List.append_assoc, List.length_append, Hc.out]; rfl
              · rw [Hev.out, ← List.append_assoc]
                exact HE.out.more Hc.out (two_below wr _ _) Ho3.out Hg3.out
            case measure => simp [intOf]; omega
          · by_cases hst1 : st0 = 1
            · subst hst1
              by_cases hf : 0 < f
              · have hfI : (0 : Int) < (f : Int) := by omega
                have Hev : Hid (endsOf M.bs (j + 1) = endsOf M.bs j ++ [Ev.of 2 j f]) := by show _ = _; rw [Hsucc.out]; simp [endEv, hf]
                clear Hsucc
                go_wp2_with (first
                  | (refine wpList_load_mid rfl 155 _ rfl gt (j * 6) rfl [.int .i64 d0, encStr t0, encStr id0, encStr bo0, .int .i64 1, .int .i64 f] _ HR.out Tryz.underlying155 rfl infoPBatch ?_)
                  | (at_builtin; refine wpList_append_lies _ rfl _ _ 140 rfl w.heap.size 151 i0 (.agg #[.int .i64 0, .int .i64 0, .string ⟨#[]⟩, .string ⟨#[]⟩, .string ⟨#[]⟩, .int .i64 0, .int .i64 0]) 7 80 Tryz.underlying140 hi hz0 hz1 hz2 rfl (by decide) (.slice ea c ek) c _ rfl ((HEr.out.alloc _).alloc _) ⟨wr.heap.size + 1, 0, none⟩ 1 1 (Ev.of 2 j f).cells rfl rfl (World.news_of_block (cs := (Ev.of 2 j f).cells.toArray) (t := 151) (fr := (0, 0)) (obj_new (by simp) _)) (by simp [Value.oneCell', Ev.cells, encStr, Ev.of, noBat]) (by decide) (by unfold maxLen; omega) (by omega) (by simp; have := HE.out.2.size; omega) (wr.heap.size + 2) (by simp) ?_; intro g3 cap3 w3 hown3 hg3 hat3 hlt3; have Ho3 := hide hown3; have Hg3 := hide hg3; clear hown3 hg3 hat3)
                  | fail)
                go_roundw
                case rel =>
                  refine ⟨j + 1, some ⟨g3, 0, none⟩, c + 1, cap3, by omega, by go_num, rfl, ?_, ?_⟩
                  · rw [Hev.out, ← List.append_assoc, List.length_append, Hc.out]; rfl
                  · rw [Hev.out, ← List.append_assoc]
                    exact HE.out.more Hc.out (two_below wr _ _) Ho3.out Hg3.out
                case measure => simp [intOf]; omega
              · obtain rfl : f = 0 := by omega
                have Hev : Hid (endsOf M.bs (j + 1) = endsOf M.bs j) := by show _ = _; rw [Hsucc.out]; simp [endEv]
                clear Hsucc
                go_wp2_with (first
                  | (refine wpList_load_mid rfl 155 _ rfl gt (j * 6) rfl [.int .i64 d0, encStr t0, encStr id0, encStr bo0, .int .i64 1, .int .i64 0] _ HR.out Tryz.underlying155 rfl infoPBatch ?_)
                  | fail)
                go_roundw
                case rel =>
                  refine ⟨j + 1, ea, c, ek, by omega, by go_num, rfl, ?_, ?_⟩
                  · rw [Hev.out]; exact Hc.out
                  · rw [Hev.out]
                    exact ⟨HE.out.1.alloc _, HE.out.2.alloc HE.out.2.size _⟩
                case measure => simp [intOf]; omega
            · have Hev : Hid (endsOf M.bs (j + 1) = endsOf M.bs j) := by show _ = _; rw [Hsucc.out]; simp [endEv, hst1, hst2]
              clear Hsucc
              go_wp2_with (first
                | (refine wpList_load_mid rfl 155 _ rfl gt (j * 6) rfl [.int .i64 d0, encStr t0, encStr id0, encStr bo0, .int .i64 st0, .int .i64 f] _ HR.out Tryz.underlying155 rfl infoPBatch ?_)
                | fail)
              go_roundw
              case rel =>
                refine ⟨j + 1, ea, c, ek, by omega, by go_num, rfl, ?_, ?_⟩
                · rw [Hev.out]; exact Hc.out
                · rw [Hev.out]
                  exact ⟨HE.out.1.alloc _, HE.out.2.alloc HE.out.2.size _⟩
              case measure => simp [intOf]; omega
        · have hjk : j = k := by omega
          subst hjk
          have e2 : wr.cell? ⟨g, 2, none⟩ = some (.slice da n dc) := (HE.out.2.cell (p := ⟨g, 2, none⟩) hgl).trans HC2.out
          have HW : Hid (M.way = M.bs.map tookEv ++ endsOf M.bs j ++ M.dead.map (diedEv M.bs)) := by unfold Ag.way; rw [Hm.out]; rfl
          generalize hbase : M.bs.map tookEv ++ endsOf M.bs j = base at *
          clear hbase hlt hj
          go_wp2_with fail
          clear e2
          go_loopw [3, 74] (fun v i wr => ∃ (q : Nat) (ea : Option Addr) (c ek : Nat), q ≤ n ∧ i = .int .i64 q ∧ v = .slice ea c ek ∧ (base ++ (M.dead.take q).map (diedEv M.bs)).length = c ∧ EvsAt w wr (.slice ea c ek) (base ++ (M.dead.take q).map (diedEv M.bs))) (fun _ i _ => n - (intOf i).toNat)
          case atStart => exact ⟨0, ea, c, ek, Nat.zero_le _, rfl, rfl, by simpa using Hc.out, by simpa using HE.out⟩
          case round =>
            clear HE HEr
            obtain ⟨q, ea, c2, ek, hq, rfl, rfl, hc, hE⟩ := hrel
            have HE := hide hE
            have hc360 : c2 ≤ 360 := by
              have h1 := Hc.out
              rw [← hc, List.length_append, List.length_map, List.length_take]
              omega
            have HEr : Hid (wr.ownsRow w.heap.size 151 7 (.slice ea c2 ek) c2 ((base ++ (M.dead.take q).map (diedEv M.bs)).flatMap Ev.cells)) := by have := hE.1; rw [hc] at this; exact this
            have Hc2 := hide hc
            clear hE hc
            by_cases hlt : q < n
            · have hltI : (q : Int) < (n : Int) := by omega
              obtain ⟨gd, rfl, hgd, _, hcd, _⟩ := (show RowAt w L (some (who, .dd)) 3 1 (.slice da n dc) n (ints M.dead) by have := HH.out.dd; rw [Hn.out] at this; exact this).head (by omega)
              obtain ⟨p, hp⟩ : ∃ p, M.dead[q]? = some p := ⟨_, List.getElem?_eq_getElem (by rw [Hn.out]; exact hlt)⟩
              have hpm : p < j := by have := HD.out p (List.mem_of_getElem? hp); omega
              have hpI : (p : Int) < (j : Int) := by omega
              obtain ⟨gt, rfl, hgt, _, hct, _⟩ := (show RowAt w L (some (who, .tk)) 155 6 (.slice ta j tc) j (M.bs.flatMap Bat.cells) by have := HH.out.tk; rw [Hm.out] at this; exact this).head (by omega)
              obtain ⟨b, hb'⟩ : ∃ b, M.bs[p]? = some b := ⟨_, List.getElem?_eq_getElem (by rw [Hm.out]; exact hpm)⟩
              have hf0 := HF.out b (List.mem_of_getElem? hb')
              obtain ⟨f, hf⟩ : ∃ f : Nat, b.fl = f := ⟨b.fl.toNat, by omega⟩
              have e0 : wr.cell? ⟨g, 0, none⟩ = some (.slice (some ⟨gt, 0, none⟩) j tc) := (HE.out.2.cell (p := ⟨g, 0, none⟩) hgl).trans HC0.out
              have e1 : wr.cell? ⟨gd, q, none⟩ = some (.int .i64 p) := by rw [HE.out.2.cell (p := ⟨gd, q, none⟩) hgd]; exact hcd q _ (ints_get hp)
              have e2 : wr.cell? ⟨gt, p * 6 + 5, none⟩ = some (.int .i64 f) := by rw [HE.out.2.cell (p := ⟨gt, _, none⟩) hgt, ← hf]; exact hct _ _ (flat_cell Bat.cells 6 Bat.cells_length hb' (by omega) rfl)
              have Hsucc : Hid ((M.dead.take (q + 1)).map (diedEv M.bs) = (M.dead.take q).map (diedEv M.bs) ++ [Ev.of 3 p f]) := by
                show _ = _
                rw [List.take_add_one, hp, List.map_append]
                simp [diedEv, hb', hf]
              clear hcd hct hp hb' hf hf0
              go_wp2_with (first
                | (at_builtin; refine wpList_append_lies _ rfl _ _ 140 rfl w.heap.size 151 i0 (.agg #[.int .i64 0, .int .i64 0, .string ⟨#[]⟩, .string ⟨#[]⟩, .string ⟨#[]⟩, .int .i64 0, .int .i64 0]) 7 80 Tryz.underlying140 hi hz0 hz1 hz2 rfl (by decide) (.slice ea c2 ek) c2 _ rfl (HEr.out.alloc _) ⟨wr.heap.size, 0, none⟩ 1 1 (Ev.of 3 p f).cells rfl rfl (World.news_of_block (cs := (Ev.of 3 p f).cells.toArray) (t := 151) (fr := (0, 0)) (obj_new (by simp) _)) (by simp [Value.oneCell', Ev.cells, encStr, Ev.of, noBat]) (by decide) (by unfold maxLen; omega) (by omega) (by simp; have := HE.out.2.size; omega) (wr.heap.size + 1) (by simp) ?_; intro g3 cap3 w3 hown3 hg3 hat3 hlt3; have Ho3 := hide hown3; have Hg3 := hide hg3; clear hown3 hg3 hat3)
                | fail)
              go_roundw
              case rel =>
                refine ⟨q + 1, some ⟨g3, 0, none⟩, c2 + 1, cap3, by omega, by go_num, rfl, ?_, ?_⟩
                · rw [Hsucc.out, ← List.append_assoc, List.length_append, Hc2.out]; rfl
                · rw [Hsucc.out, ← List.append_assoc]
                  exact HE.out.more Hc2.out ((Below.refl _ _).alloc (Nat.le_refl _) _) Ho3.out Hg3.out
              case measure => simp [intOf]; omega
            · have hqn : q = n := by omega
              subst hqn
              go_wp2_with fail
              go_ret
              have h1 := HE.out
              rw [List.take_of_length_le (by rw [Hn.out]; exact Nat.le_refl _), ← HW.out] at h1
              exact ⟨_, rfl, h1⟩
end Go.Proofs.YtojpjaifhjigfaaGreatDoor

/- Compact and Log. -/
namespace Go.Proofs.YtojpjaifhjigfaaGreatDoor
open Go.RowKit Go.Maps

theorem ownsRow_zero {w : World} {base : Nat} {e : TypeId} {size : Nat} {v : Value} {n : Nat} {xs : List Value} (h : w.ownsRow base e size v n xs) : w.ownsRow 0 e size v n xs :=
  ⟨h.1, h.2.imp id (fun ⟨g, cap, cur, e, _, r⟩ => ⟨g, cap, cur, e, Nat.zero_le _, r⟩)⟩

/-- What stands in the short way. -/
theorem mem_endsOf {bs : List Bat} {e : Ev} : ∀ {k : Nat}, e ∈ endsOf bs k → ∃ p b, p < k ∧ bs[p]? = some b ∧ e ∈ endEv p b
  | 0, h => by cases h
  | k + 1, h => by
    rcases List.mem_append.1 h with h | h
    · obtain ⟨p, b, h1, h2⟩ := mem_endsOf h
      exact ⟨p, b, by omega, h2⟩
    · cases hb : bs[k]? with
      | none => rw [hb] at h; cases h
      | some b => rw [hb] at h; exact ⟨k, b, by omega, hb, h⟩
theorem Inv.tell {M : Ag} {t : Nat} (h : Inv M t) : ∀ e ∈ M.way, e.Tell := by
  have hc := Cfg.ok h.good.1
  have hat := hc.at'
  have hd := hc.d
  have h120 := h.b120
  have hfl : ∀ p b, M.bs[p]? = some b → p < 256 ∧ b.fl.toNat < 256 := fun p b hb => by
    have h1 := (List.getElem?_eq_some_iff.1 hb).1
    have h2 := (h.each b (List.mem_of_getElem? hb)).2.2.2.2.2.2
    omega
  intro e he
  unfold Ag.way at he
  rcases List.mem_append.1 he with he | he
  · rcases List.mem_append.1 he with he | he
    · obtain ⟨b, hb, rfl⟩ := List.mem_map.1 he
      obtain ⟨e1, e2, e3, e4, e5, e6, _⟩ := h.each b hb
      exact Or.inl ⟨rfl, rfl, rfl, e1, Int.lt_of_lt_of_le e2 hd.2, (h.sl _ e3).2, e5, e6⟩
    · obtain ⟨p, b, _, hb, he⟩ := mem_endsOf he
      obtain ⟨h1, h2⟩ := hfl p b hb
      unfold endEv at he
      split at he
      · rw [List.mem_singleton.1 he]; exact Or.inr ⟨show 0 < 1 by omega, show 1 < 4 by omega, h1, h2⟩
      · split at he
        · rw [List.mem_singleton.1 he]; exact Or.inr ⟨show 0 < 2 by omega, show 2 < 4 by omega, h1, h2⟩
        · cases he
  · obtain ⟨p, hp, rfl⟩ := List.mem_map.1 he
    obtain ⟨b, hb, _⟩ := (h.dead p).1 hp
    obtain ⟨h1, h2⟩ := hfl p b hb
    exact Or.inr ⟨show 0 < 3 by omega, show 3 < 4 by omega, h1, by simp only [diedEv, Ev.of, hb, Option.map_some, Option.getD_some]; exact h2⟩
theorem tell_len : ∀ (l : List Ev), (∀ e ∈ l, e.Tell) → (l.flatMap Ev.bytes).length ≤ 100 * l.length
  | [], _ => by simp
  | a :: l, h => by
    have h1 := (h a (by simp)).le
    have h2 := tell_len l (fun e he => h e (by simp [he]))
    simp only [List.flatMap_cons, List.length_append, List.length_cons]
    omega
theorem Inv.dead_lt {M : Ag} {t : Nat} (h : Inv M t) : ∀ p ∈ M.dead, p < M.bs.length := fun p hp => by
  obtain ⟨b, hb, _⟩ := (h.dead p).1 hp
  exact (List.getElem?_eq_some_iff.1 hb).1
theorem Inv.way_len {M : Ag} {t : Nat} (h : Inv M t) : M.way.length ≤ 360 := by
  have h1 := h.b120
  have h2 := h.dead_le
  have h3 := endsOf_le M.bs M.bs.length
  unfold Ag.way
  rw [List.length_append, List.length_append, List.length_map, List.length_map]
  omega
/-- The agent behind Compact. -/
def Ag.compacted (M : Ag) : Ag := { M with log := recB 61 M.way }
theorem Inv.compacted_len {M : Ag} {t : Nat} (h : Inv M t) : (recB 61 M.way).length ≤ 36003 := by
  have h1 := tell_len M.way h.tell
  have h2 := h.way_len
  unfold recB
  split
  · simp
  · rw [List.length_append]; show 3 + _ ≤ _; omega

set_option maxRecDepth 100000 in
set_option maxHeartbeats 1000000 in
theorem rewrite_any (L : Labs) (who g t : Nat) (M : Ag) (w : World) (hA : AgentAt w L who g M) (h : Inv M t) :
    Calls Tryz.prog 74 #[.pointer (some ⟨g, 0, none⟩)] w fun r w' => r = .returned (.tuple #[]) ∧ Turned w L who g M.compacted w' := by
  have HS := hide (shortWay_any L who g M w hA h.dead_lt h.b120 h.dead_le (fun b hb => (h.each b hb).2.2.2.2.2.2.1))
  have HW := hide (fun v w1 h1 => written_any 61 v M.way w1 h1 h.tell (by have h1 := tell_len M.way h.tell; have h2 := h.way_len; omega))
  have HA := hide hA
  have hgl : g < w.heap.size := World.block_lt_of_cell? w _ (agent_log hA)
  unfold Ways at HS
  clear hA h
  go_enter Tryz.func74, Tryz.ntmps74
  go_wp2_with fail
  refine HS.out.mono ?_
  rintro e w1 ⟨v, rfl, hr1, hb1⟩
  have HW1 := hide (HW.out v w1 (ownsRow_zero hr1))
  have HB1 := hide hb1
  clear hr1 hb1
  go_wp2_with fail
  refine HW1.out.mono ?_
  rintro e w2 ⟨rfl, hb2⟩
  have hB2 : Below w.heap.size w w2 := HB1.out.trans (hb2.mono HB1.out.size)
  have hA2 := HA.out.keep (Step.of_below (p := fun _ => False) (L := L) hB2) (fun _ h => h)
  have f3 : w2.frozen? ⟨g, 3, none⟩ = false := agent_frozen hA2 3
  have c3 := agent_log hA2
  have HA2 := hide hA2
  have HB2 := hide hB2
  generalize hrec : recB 61 M.way = rec at *
  have Hrec := hide hrec
  clear hb2 hB2 hA2 hrec
  go_wp2_with fail
  first | go_end0 | refine bodyPost_ret (results_none rfl _ _ _) rfl ?_
  obtain ⟨L3, hA3, hS3⟩ := logged_step HA2.out rec
  refine ⟨rfl, L3, ?_, (Step.of_below HB2.out).trans hS3⟩
  unfold Ag.compacted
  rw [Hrec.out]
  exact hA3

set_option maxHeartbeats 400000 in
theorem compact_any (L : Labs) (who g t : Nat) (M : Ag) (w : World) (hA : AgentAt w L who g M) (h : Inv M t) :
    Calls Tryz.prog 32 #[.pointer (some ⟨g, 0, none⟩)] w fun r w' => r = .returned (.tuple #[]) ∧ Turned w L who g M.compacted w' := by
  have H := hide (rewrite_any L who g t M w hA h)
  clear hA h
  go_enter Tryz.func32, Tryz.ntmps32
  go_wp2_with fail
  refine H.out.mono ?_
  rintro e w1 ⟨rfl, h1⟩
  have H1 := hide h1
  clear h1
  go_wp2_with fail
  first | go_end0 | refine bodyPost_ret (results_none rfl _ _ _) rfl ?_
  exact ⟨rfl, H1.out⟩
set_option maxHeartbeats 400000 in
theorem log_any (L : Labs) (who g : Nat) (M : Ag) (w : World) (hA : AgentAt w L who g M) :
    Calls Tryz.prog 33 #[.pointer (some ⟨g, 0, none⟩)] w fun r w' => r = .returned (encStr M.log) ∧ w' = w := by
  have c3 := agent_log hA
  generalize M.log = l at *
  clear hA
  go_enter Tryz.func33, Tryz.ntmps33
  go_wp2_with fail
  go_ret
  exact ⟨rfl, rfl⟩
theorem Inv.compacted {M : Ag} {t : Nat} (h : Inv M t) : Inv M.compacted (t + 200) := by
  have := (h.more (show t ≤ t + 200 by omega)).logged (recB 61 M.way) (by have := h.compacted_len; omega)
  exact this
end Go.Proofs.YtojpjaifhjigfaaGreatDoor

/- Tried: one batch that fails and fails. -/
namespace Go.Proofs.YtojpjaifhjigfaaGreatDoor
open Go.RowKit Go.Maps

/-- A configuration whose breaker never opens. -/
def triC (zs : List Int) : Cfg := { madeC zs with le := 60, wi := 64 }
theorem tri_good (zs : List Int) : GoodC (triC zs) (DT (madeT zs (1 + pickN (zs.getD 9 0) 4))) := by
  have h9 := pickN_lt (zs.getD 9 0) (n := 4) (by omega)
  have h0 := pickN_lt (zs.getD 0 0) (n := 3) (by omega)
  have h1 := pickN_lt (zs.getD 1 0) (n := 5) (by omega)
  have h2 := pickN_lt (zs.getD 2 0) (n := 50) (by omega)
  have h3 := pickN_lt (zs.getD 3 0) (n := 80) (by omega)
  have h5 := pickN_lt (zs.getD 5 0) (n := 200) (by omega)
  have h6 := pickN_lt (zs.getD 6 0) (n := 300) (by omega)
  have h8 := pickN_lt (zs.getD 8 0) (n := 4) (by omega)
  refine ⟨?_, (made_goodQ zs (by omega) (by omega)).1, quarter_ok h8⟩
  simp only [Cfg.numB, Cfg.nums, triC, madeC, List.all_cons, List.all_nil, inB, Bool.and_true, Bool.and_eq_true, decide_eq_true_eq]
  omega
theorem tri_bd (zs : List Int) : 1 ≤ (triC zs).at' ∧ (triC zs).at' ≤ 5 ∧ 1 ≤ (triC zs).ba ∧ (triC zs).ba ≤ (triC zs).ca ∧ (triC zs).ca ≤ 400 := by
  have h1 := pickN_lt (zs.getD 1 0) (n := 5) (by omega)
  have h2 := pickN_lt (zs.getD 2 0) (n := 50) (by omega)
  have h6 := pickN_lt (zs.getD 6 0) (n := 300) (by omega)
  simp only [triC, madeC]
  omega

/-- The one batch, in state st, behind f failures. -/
def triBat (st f : Int) : Bat := ⟨0, [97], [120], [97, 98, 99], st, f⟩
/-- It waits. -/
structure TWait (zs : List Int) (f : Nat) (fr : Int) (M : Ag) : Prop where
  bs : M.bs = [triBat 1 f]
  rt : ∃ pa, M.rt = [⟨fr, pa⟩]
  ho : ∃ o, M.os[0]? = some o ∧ o.sends = (f : Int) ∧ o.res = (f : Int) ∧ o.trip = false
  wy : ∀ (d : Nat) o', M.os[d]? = some o' → o'.way = -1
  dead : M.dead = []
  c : M.c = triC zs
/-- It is dead. -/
structure TDead (zs : List Int) (M : Ag) : Prop where
  bs : M.bs = [triBat 3 (triC zs).at']
  wy : ∀ (d : Nat) o', M.os[d]? = some o' → o'.way = -1
  dead : M.dead = [0]
  c : M.c = triC zs

theorem one_pend {b : Bat} {d : Int} {x : List UInt8} {p : Nat} {ps : List Nat} (h : pend [b] d x = p :: ps) : p = 0 := by
  obtain ⟨b', h1, _⟩ := mem_pend.1 (show p ∈ pend [b] d x by rw [h]; simp)
  have := (List.getElem?_eq_some_iff.1 h1).1
  simp at this
  exact this
theorem idle_ticked {M : Ag} (hw : ∀ (d : Nat) o', M.os[d]? = some o' → o'.way = -1) (hb : ∀ b ∈ M.bs, b.dst = 0) (hl : 0 < M.os.length) (ms draw : Int) : M.ticked ms draw = (M.later ms).sentTo 0 := by
  unfold Ag.ticked
  rw [timed_idle (M := M.later ms) hw]
  obtain ⟨k, hk⟩ : ∃ k, (M.later ms).os.length = k + 1 := ⟨M.os.length - 1, by show M.os.length = _; omega⟩
  rw [hk]
  exact sentOut_first (M := M.later ms) hb k
theorem Inv.os_pos {M : Ag} {t : Nat} (h : Inv M t) (hd : 1 ≤ M.c.d) : 0 < M.os.length := by have := h.ol; omega

theorem TWait.later {zs : List Int} {f : Nat} {fr : Int} {M : Ag} (h : TWait zs f fr M) (ms : Int) : TWait zs f fr (M.later ms) := ⟨h.bs, h.rt, h.ho, h.wy, h.dead, h.c⟩
theorem TWait.dst {zs : List Int} {f : Nat} {fr : Int} {M : Ag} (h : TWait zs f fr M) : ∀ b ∈ M.bs, b.dst = 0 := fun b hb => by
  rw [h.bs] at hb
  rw [List.mem_singleton.1 hb]
  rfl
theorem TWait.os_pos {zs : List Int} {f : Nat} {fr : Int} {M : Ag} (h : TWait zs f fr M) : 0 < M.os.length := by
  obtain ⟨o, ho, _⟩ := h.ho
  exact (List.getElem?_eq_some_iff.1 ho).1
/-- Ahead of its time it does not go. -/
theorem TWait.blocked {zs : List Int} {f : Nat} {fr : Int} {M : Ag} (h : TWait zs f fr M) (draw : Int) (hn : M.now + 1 < fr) : M.ticked 1 draw = (M.later 1, []) := by
  rw [idle_ticked h.wy h.dst h.os_pos]
  obtain ⟨o, ho, _⟩ := h.ho
  refine sentTo_not (M := M.later 1) ho (Or.inr (Or.inr (List.all_eq_true.2 fun s hs => ?_)))
  obtain ⟨x, _, rfl⟩ := List.mem_map.1 hs
  obtain ⟨pa, hrt⟩ := h.rt
  unfold Ag.size
  rw [show (M.later 1).bs = [triBat 1 f] from h.bs]
  cases hp : pend [triBat 1 f] (0 : Nat) x with
  | nil => rfl
  | cons p ps =>
    have hp0 := one_pend hp
    subst hp0
    simp only
    rw [show (M.later 1).rt = [⟨fr, pa⟩] from hrt, if_pos (show (M.later 1).now < (Option.map (fun x => x.fr) [(⟨fr, pa⟩ : Ret)][0]?).getD 0 from hn)]
    rfl
/-- What is dead does not go. -/
theorem TDead.ticked {zs : List Int} {M : Ag} {t : Nat} (h : TDead zs M) (hi : Inv M t) (draw : Int) : M.ticked 1 draw = (M.later 1, []) := by
  have hd : 1 ≤ M.c.d := by rw [h.c]; simp only [triC, madeC]; omega
  rw [idle_ticked h.wy (fun b hb => by rw [h.bs] at hb; rw [List.mem_singleton.1 hb]; rfl) (hi.os_pos hd)]
  obtain ⟨o, ho⟩ : ∃ o, M.os[0]? = some o := ⟨_, List.getElem?_eq_getElem (hi.os_pos hd)⟩
  refine sentTo_not (M := M.later 1) ho (Or.inr (Or.inr (List.all_eq_true.2 fun s hs => ?_)))
  obtain ⟨x, _, rfl⟩ := List.mem_map.1 hs
  unfold Ag.size
  rw [show (M.later 1).bs = [triBat 3 (triC zs).at'] from h.bs]
  cases hp : pend [triBat 3 (triC zs).at'] (0 : Nat) x with
  | nil => rfl
  | cons p ps =>
    obtain ⟨b', h1, _, _, h4⟩ := mem_pend.1 (show p ∈ pend [triBat 3 (triC zs).at'] (0 : Nat) x by rw [hp]; simp)
    have hb' := List.mem_of_getElem? h1
    rw [List.mem_singleton.1 hb'] at h4
    simp [triBat] at h4
theorem TDead.later {zs : List Int} {M : Ag} (h : TDead zs M) (ms : Int) : TDead zs (M.later ms) := ⟨h.bs, h.wy, h.dead, h.c⟩

theorem pause_bd {c : Cfg} {pa draw : Int} (h1 : 1 ≤ c.ba) (h2 : c.ba ≤ c.ca) (h3 : c.ba ≤ pa) : c.ba ≤ nextPause c pa draw ∧ nextPause c pa draw ≤ c.ca := by
  have := Int.emod_nonneg draw (b := 3 * pa - c.ba + 1) (by omega)
  unfold nextPause
  omega

/-- What stands behind the send. -/
structure TGone (zs : List Int) (f : Nat) (M M' : Ag) (s : Sd) (draw : Int) : Prop where
  tr : s.try' = (f : Int) + 1
  id : s.id = [120]
  ho : ∃ o', M'.os[0]? = some o' ∧ o'.way ≠ -1 ∧ o'.sends = (f : Int) + 1
  nw : (M'.replied 0 false draw).now = M.now + 1
  wait : f + 1 < (triC zs).at' → ∃ fr', TWait zs (f + 1) fr' (M'.replied 0 false draw) ∧ M.now + 1 + (triC zs).ba ≤ fr' ∧ fr' ≤ M.now + 1 + (triC zs).ca
  dies : f + 1 = (triC zs).at' → TDead zs (M'.replied 0 false draw)

theorem TWait.goes {zs : List Int} {f t : Nat} {fr : Int} {M : Ag} (h : TWait zs f fr M) (hi : Inv M t) (ht : t + 2 ≤ 10000000000000) {draw : Int} (hd : 0 ≤ draw) (hn : fr ≤ M.now + 1) : ∃ M' s, M.ticked 1 draw = (M', [s]) ∧ TGone zs f M M' s draw := by
  obtain ⟨o, ho, hsn, hrs, htr⟩ := h.ho
  obtain ⟨pa, hrt⟩ := h.rt
  have hw := h.wy 0 o ho
  have h' := h.later 1
  have hten : ([97] : List UInt8) ∈ M.ns := (hi.each (triBat 1 f) (by rw [h.bs]; simp)).2.2.1
  have hall : ((M.later 1).sizes 0).all (· == 0) = false := by
    refine List.all_eq_false.2 ⟨(M.later 1).size 0 [97], List.mem_map.2 ⟨_, hten, rfl⟩, ?_⟩
    unfold Ag.size
    rw [show (M.later 1).bs = [triBat 1 f] from h.bs, show (M.later 1).rt = [⟨fr, pa⟩] from hrt]
    rw [show pend [triBat 1 f] (0 : Nat) [97] = [0] from rfl]
    simp only
    rw [if_neg (show ¬ (M.later 1).now < _ from by show ¬ M.now + 1 < fr; omega)]
    simp
  have hnm : (M.later 1).named 0 o = 0 := by
    unfold Ag.named
    rw [show (M.later 1).bs = [triBat 1 f] from h.bs]
    generalize (M.later 1).ns.getD (o.picked ((M.later 1).sizes 0) (M.later 1).quanta).turn [] = x
    cases hp : pend [triBat 1 f] ((0 : Nat) : Int) x with
    | nil => rfl
    | cons p ps => exact one_pend hp
  have e := sentTo_eq (M := M.later 1) ho hw (fun hh => by rw [htr] at hh; exact absurd hh.1 (by simp)) hall
  rw [hnm] at e
  have htk := (idle_ticked h.wy h.dst h.os_pos 1 draw).trans e
  have hl := h.os_pos
  obtain ⟨o', ho'⟩ : ∃ o' : Out, o' = { o.picked ((M.later 1).sizes 0) (M.later 1).quanta with sends := o.sends + 1, way := ((0 : Nat) : Int), began := (M.later 1).now } := ⟨_, rfl⟩
  rw [← ho'] at htk
  obtain ⟨M', hM'⟩ : ∃ M', M' = ({ M.later 1 with os := (M.later 1).os.set 0 o' } : Ag) := ⟨_, rfl⟩
  rw [← hM'] at htk
  have hi' : Inv M' (t + 1) := by
    have := hi.ticked (ms := 1) (draw := draw) (by omega) (by omega) (by omega) hd
    rw [htk] at this
    exact this
  have hoM : M'.os[0]? = some o' := by
    rw [hM']
    show (M.os.set 0 o')[0]? = some o'
    rw [List.getElem?_set_self hl]
  have hwy : o'.way = ((0 : Nat) : Int) := by rw [ho']
  have hwn : o'.way ≠ -1 := by rw [hwy]; simp
  have hbr : o'.res = o.res ∧ o'.trip = o.trip ∧ o'.sends = o.sends + 1 := by rw [ho']; exact ⟨rfl, rfl, rfl⟩
  obtain ⟨p, b, r, hs, hst, hdst, hfl⟩ := hi'.setOk (draw := draw) (by omega) hd hoM hwn
  have hp0 : p = 0 := by have := hs.way; rw [hwy] at this; omega
  subst hp0
  have hbe : b = triBat 1 f := by
    have := hs.hb
    rw [hM', show ({ M.later 1 with os := (M.later 1).os.set 0 o' } : Ag).bs = [triBat 1 f] from h.bs] at this
    exact (Option.some.inj this).symm
  have hre : r = ⟨fr, pa⟩ := by
    have := hs.hr
    rw [hM', show ({ M.later 1 with os := (M.later 1).os.set 0 o' } : Ag).rt = [⟨fr, pa⟩] from hrt] at this
    exact (Option.some.inj this).symm
  have hMc : M'.c = triC zs := by rw [hM']; exact h.c
  have hMn : M'.now = M.now + 1 := by rw [hM']; rfl
  have hMb : M'.bs = [triBat 1 f] := by rw [hM']; exact h.bs
  have hMr : M'.rt = [⟨fr, pa⟩] := by rw [hM']; exact hrt
  have hMd : M'.dead = [] := by rw [hM']; exact h.dead
  obtain ⟨k, _, _, ff, er⟩ := replied_eq hs false
  have eo := over_eq hs false
  obtain ⟨t1, t2, t3, t4, t5⟩ := tri_bd zs
  have hres : ({ o' with way := -1 } : Out).heard M'.c M'.now false = { o' with way := -1, res := o'.res + 1, fl := o'.fl + 1 } := by
    have hf5 : (f : Int) < 5 := by
      have : (triBat 1 f).fl < M'.c.at' := hbe ▸ hfl
      rw [hMc] at this
      have : (f : Int) < (triC zs).at' := this
      omega
    unfold Out.heard
    rw [if_neg (by show ¬ o'.trip = true; rw [hbr.2.1, htr]; simp)]
    unfold Out.counted
    have hle : ¬ M'.c.le ≤ o'.res + 1 := by rw [hMc, hbr.1, hrs]; show ¬ (60 : Int) ≤ f + 1; omega
    have hwi : ¬ o'.res + 1 = M'.c.wi := by rw [hMc, hbr.1, hrs]; show ¬ (f : Int) + 1 = 64; omega
    simp only [decide_eq_false hle, Bool.false_and, Bool.false_eq_true, if_false, if_neg hwi]
  rw [hres] at eo
  have hos : ∀ (d : Nat) o2, (M'.os.set 0 { o' with way := -1, res := o'.res + 1, fl := o'.fl + 1 })[d]? = some o2 → o2.way = -1 := fun d o2 ho2 => by
    have hl' : 0 < M'.os.length := (List.getElem?_eq_some_iff.1 hoM).1
    by_cases e0 : d = 0
    · subst e0
      rw [List.getElem?_set_self hl'] at ho2
      cases ho2
      rfl
    · rw [List.getElem?_set_ne (fun e => e0 e.symm), hM'] at ho2
      have ho3 : (M.os.set 0 o')[d]? = some o2 := ho2
      rw [List.getElem?_set_ne (fun e => e0 e.symm)] at ho3
      exact h.wy d o2 ho3
  refine ⟨M', _, htk, ?_, ?_, ⟨o', hoM, hwn, by rw [hbr.2.2, hsn]⟩, ?_, fun hlt => ?_, fun heq => ?_⟩
  · show o.sends + 1 = _
    rw [hsn]
  · show ((M.bs[0]?).map (·.id)).getD [] = [120]
    rw [h.bs]
    rfl
  · rw [er, eo]
    exact hMn
  · have hnd : ¬ M'.c.at' ≤ b.fl + 1 := by rw [hMc, hbe]; show ¬ (triC zs).at' ≤ (f : Int) + 1; omega
    obtain ⟨q1, q2⟩ := pause_bd (c := triC zs) (pa := pa) (draw := draw) t3 t4 (by have := hs.p1; rw [hMc, hre] at this; exact this)
    refine ⟨M.now + 1 + nextPause (triC zs) pa draw, ?_, by omega, by omega⟩
    rw [er, eo]
    simp only [Bool.false_eq_true, if_false, if_neg hnd]
    refine ⟨?_, ⟨nextPause (triC zs) pa draw, ?_⟩, ⟨{ o' with way := -1, res := o'.res + 1, fl := o'.fl + 1 }, ?_, ?_, ?_, ?_⟩, hos, hMd, hMc⟩
    · show M'.bs.set 0 (b.ended 2 1) = _
      rw [hMb, hbe]
      simp [triBat, Bat.ended]
    · show M'.rt.set 0 _ = _
      rw [hMr, hMn, hMc, hre]
      rfl
    · show (M'.os.set 0 _)[0]? = some _
      rw [List.getElem?_set_self (List.getElem?_eq_some_iff.1 hoM).1]
    · show o'.sends = _
      rw [hbr.2.2, hsn]
      simp
    · show o'.res + 1 = _
      rw [hbr.1, hrs]
      simp
    · exact hbr.2.1.trans htr
  · have hyd : M'.c.at' ≤ b.fl + 1 := by rw [hMc, hbe]; show (triC zs).at' ≤ (f : Int) + 1; omega
    rw [er, eo]
    simp only [Bool.false_eq_true, if_false, if_pos hyd]
    refine ⟨?_, hos, ?_, hMc⟩
    · show M'.bs.set 0 (b.ended 3 1) = _
      rw [hMb, hbe, ← heq]
      simp [triBat, Bat.ended]
    · show M'.dead ++ [0] = [0]
      rw [hMd]
      rfl
end Go.Proofs.YtojpjaifhjigfaaGreatDoor

/- Tried: the state while time goes by; the calls with a draw. -/
namespace Go.Proofs.YtojpjaifhjigfaaGreatDoor
open Go.RowKit Go.Maps

/-- Behind n ticks and f sends, q ticks behind the last. -/
def TSt (zs : List Int) (n f q : Nat) (M : Ag) : Prop := M.now = n ∧ ((TDead zs M ∧ (f : Int) = (triC zs).at') ∨ ∃ fr, TWait zs f fr M ∧ (f : Int) < (triC zs).at' ∧ ((f = 0 ∧ n = 0 ∧ fr ≤ 0) ∨ (0 < f ∧ (n : Int) < fr ∧ (n : Int) - q + (triC zs).ba ≤ fr ∧ fr ≤ (n : Int) - q + (triC zs).ca ∧ fr ≤ 1 + (f : Int) * (triC zs).ca)))

theorem TSt.step {zs : List Int} {n f q t : Nat} {M : Ag} (h : TSt zs n f q M) (hi : Inv M t) (ht : t + 2 ≤ 10000000000000) {draw : Int} (hd : 0 ≤ draw) :
    (∃ M', M.ticked 1 draw = (M', []) ∧ TSt zs (n + 1) f (q + 1) M') ∨ (∃ M' s, M.ticked 1 draw = (M', [s]) ∧ s.try' = (f : Int) + 1 ∧ s.id = [120] ∧ (∃ o', M'.os[0]? = some o' ∧ o'.way ≠ -1 ∧ o'.sends = (f : Int) + 1) ∧ (0 < f → (triC zs).ba ≤ (q : Int) + 1 ∧ (q : Int) + 1 ≤ (triC zs).ca) ∧ TSt zs (n + 1) (f + 1) 0 (M'.replied 0 false draw)) := by
  obtain ⟨hn, h⟩ := h
  obtain ⟨t1, t2, t3, t4, t5⟩ := tri_bd zs
  rcases h with ⟨h1, h2⟩ | ⟨fr, h1, h2, h3⟩
  · refine Or.inl ⟨_, h1.ticked hi draw, by show M.now + 1 = _; omega, Or.inl ⟨h1.later 1, h2⟩⟩
  · have key : fr ≤ M.now + 1 → (n : Int) ≤ (f : Int) * (triC zs).ca → (0 < f → (triC zs).ba ≤ (q : Int) + 1 ∧ (q : Int) + 1 ≤ (triC zs).ca) → (∃ M' s, M.ticked 1 draw = (M', [s]) ∧ s.try' = (f : Int) + 1 ∧ s.id = [120] ∧ (∃ o', M'.os[0]? = some o' ∧ o'.way ≠ -1 ∧ o'.sends = (f : Int) + 1) ∧ (0 < f → (triC zs).ba ≤ (q : Int) + 1 ∧ (q : Int) + 1 ≤ (triC zs).ca) ∧ TSt zs (n + 1) (f + 1) 0 (M'.replied 0 false draw)) := fun hfr hnc hq => by
      obtain ⟨M', s, e, g⟩ := h1.goes hi ht hd hfr
      refine ⟨M', s, e, g.tr, g.id, g.ho, hq, by rw [g.nw, hn]; rfl, ?_⟩
      by_cases hl : (f : Int) + 1 < (triC zs).at'
      · obtain ⟨fr', w1, w2, w3⟩ := g.wait hl
        refine Or.inr ⟨fr', w1, by omega, Or.inr ⟨by omega, by omega, by omega, by omega, ?_⟩⟩
        have : ((f + 1 : Nat) : Int) * (triC zs).ca = (f : Int) * (triC zs).ca + (triC zs).ca := by
          rw [show ((f + 1 : Nat) : Int) = (f : Int) + 1 by omega, Int.add_mul, Int.one_mul]
        omega
      · exact Or.inl ⟨g.dies (by omega), by omega⟩
    rcases h3 with ⟨e1, e2, e3⟩ | ⟨e1, e2, e3, e4, e5⟩
    · subst e1 e2
      exact Or.inr (key (by omega) (by simp) (fun h => absurd h (by omega)))
    · by_cases hb : M.now + 1 < fr
      · exact Or.inl ⟨_, h1.blocked draw hb, by show M.now + 1 = _; omega, Or.inr ⟨fr, h1.later 1, h2, Or.inr ⟨e1, by omega, by omega, by omega, e5⟩⟩⟩
      · exact Or.inr (key (by omega) (by omega) (fun _ => by omega))
theorem TSt.final {zs : List Int} {n f q : Nat} {M : Ag} (h : TSt zs n f q M) (hn : 10 * (triC zs).ca + 100 ≤ (n : Int)) : TDead zs M ∧ (f : Int) = (triC zs).at' := by
  obtain ⟨t1, t2, t3, t4, t5⟩ := tri_bd zs
  rcases h.2 with h1 | ⟨fr, h1, h2, h3⟩
  · exact h1
  · rcases h3 with ⟨_, e2, _⟩ | ⟨e1, e2, e3, e4, e5⟩
    · omega
    · have : (f : Int) * (triC zs).ca ≤ 5 * (triC zs).ca := Int.mul_le_mul_of_nonneg_right (by omega) (by omega)
      omega

theorem tri_ok (zs : List Int) (ns : List (List UInt8)) : (Ag.new (triC zs) (DT (madeT zs (1 + pickN (zs.getD 9 0) 4))) ns).refusal (triBat 0 0) = 0 := by
  have h9 := pickN_lt (zs.getD 9 0) (n := 4) (by omega)
  have hhas : Maps.has (DT (madeT zs (1 + pickN (zs.getD 9 0) 4))) (.string [97]) = true := (made_goodQ zs (by omega) (by omega)).2
  generalize hM : Ag.new (triC zs) (DT (madeT zs (1 + pickN (zs.getD 9 0) 4))) ns = M
  have hbs : M.bs = [] := by rw [← hM]; rfl
  have hc : M.c = triC zs := by rw [← hM]; rfl
  have hD : M.D = DT (madeT zs (1 + pickN (zs.getD 9 0) 4)) := by rw [← hM]; rfl
  have e1 : destB M (triBat 0 0).dst = true := by simp [destB, hc, triC, madeC, triBat]; omega
  have e2 : Maps.has M.D (.string (triBat 0 0).ten) = true := by rw [hD]; exact hhas
  have e3 : inB (triBat 0 0).id.length 1 16 = true := rfl
  have e4 : ¬ 63 < (triBat 0 0).body.length := by simp [triBat]
  have e5 : findId M.bs (triBat 0 0).id = -1 := by rw [hbs]; rfl
  have e6 : ¬ M.c.q ≤ (waits M.bs (triBat 0 0).ten : Int) := by rw [hbs, hc]; show ¬ (100 : Int) ≤ ((0 : Nat) : Int); omega
  unfold Ag.refusal Ag.misfit
  simp only [e1, e2, e3, if_neg e4, e5]
  rw [if_neg (by rw [hbs]; simp : ¬ 120 ≤ M.bs.length)]
  simp [e6]
theorem tri_wait (zs : List Int) (ns : List (List UInt8)) : TSt zs 0 0 0 ((Ag.new (triC zs) (DT (madeT zs (1 + pickN (zs.getD 9 0) 4))) ns).submitted (triBat 0 0)) := by
  obtain ⟨t1, t2, t3, t4, t5⟩ := tri_bd zs
  have hd : (triC zs).d.toNat = pickN (zs.getD 0 0) 3 + 1 := by show ((1 + (pickN (zs.getD 0 0) 3 : Int))).toNat = _; omega
  unfold Ag.submitted
  rw [if_pos (tri_ok zs ns)]
  refine ⟨rfl, Or.inr ⟨0, ⟨rfl, ⟨_, rfl⟩, ⟨_, by show (List.replicate (triC zs).d.toNat _)[0]? = some _; rw [hd, List.replicate_succ]; rfl, rfl, rfl, rfl⟩, fun d o' ho => ?_, rfl, rfl⟩, by omega, Or.inl ⟨rfl, rfl, Int.le_refl _⟩⟩⟩
  have := List.mem_of_getElem? ho
  rw [(List.mem_replicate.1 this).2]

theorem dtick0 {w wr : World} {g gc : Nat} {cs : Array Value} {t : Nat} {M M' : Ag} (h : KAt w wr g gc cs t M) (ht : t ≤ 1000000) {ms draw : Int} (h0 : 0 ≤ ms) (h1 : ms ≤ 60000) (hd : 0 ≤ draw) (he : M.ticked ms draw = (M', [])) :
    Calls Tryz.prog 30 #[.pointer (some ⟨g, 0, none⟩), .int .i64 ms, .int .i64 draw] wr fun e w' => ∃ a cap, e = .returned (.tuple #[.slice a 0 cap, .nilIface]) ∧ KAt w w' g gc cs (t + 1) M' := by
  obtain ⟨L, q1, q2, q3, q4, q5⟩ := h
  refine (tick_inv L 1 g t M ms draw wr q1 q5 (by omega) h0 h1 hd).mono ?_
  rintro e w' ⟨v, L', l', rfl, hr, _, _, hA, hs⟩
  have hi := q5.ticked (ms := ms) (draw := draw) (by omega) h0 h1 hd
  rw [he] at hr hA hi
  obtain ⟨a, cap, rfl, _⟩ := hr.shape
  exact ⟨a, cap, rfl, KAt.step q2 q3 q4 hA hs hi⟩
/-- What was sent lies apart from the agent's own, and a Reply leaves it. -/
theorem dtick1 {w wr : World} {g gc : Nat} {cs : Array Value} {t : Nat} {M M' : Ag} {s : Sd} (h : KAt w wr g gc cs t M) (ht : t ≤ 1000000) {ms draw : Int} (h0 : 0 ≤ ms) (h1 : ms ≤ 60000) (hd : 0 ≤ draw) (he : M.ticked ms draw = (M', [s])) {o : Out} (ho : M'.os[0]? = some o) (hw : o.way ≠ -1) (tr : Int) (htr : tr = o.sends) (good : Bool) :
    Calls Tryz.prog 30 #[.pointer (some ⟨g, 0, none⟩), .int .i64 ms, .int .i64 draw] wr fun e w' => ∃ gr cap, e = .returned (.tuple #[.slice (some ⟨gr, 0, none⟩) 1 cap, .nilIface]) ∧ KAt w w' g gc cs (t + 1) M' ∧
      Calls Tryz.prog 31 #[.pointer (some ⟨g, 0, none⟩), .int .i64 0, .int .i64 tr, .bool good, .int .i64 draw] w' fun e w2 => e = .returned .nilIface ∧ KAt w w2 g gc cs (t + 2) (M'.replied 0 good draw) ∧ (∀ j v, s.cells[j]? = some v → w2.cell? ⟨gr, j, none⟩ = some v) := by
  obtain ⟨L, q1, q2, q3, q4, q5⟩ := h
  refine (tick_inv L 1 g t M ms draw wr q1 q5 (by omega) h0 h1 hd).mono ?_
  rintro e w' ⟨v, L', l', rfl, hr, hl', hfr, hA, hs⟩
  have hi := q5.ticked (ms := ms) (draw := draw) (by omega) h0 h1 hd
  rw [he] at hr hA hi
  obtain ⟨a, cap, rfl, _⟩ := hr.shape
  obtain ⟨gr, rfl, h5, h6, h7, h8⟩ := hr.head (by simp)
  refine ⟨gr, cap, rfl, KAt.step q2 q3 q4 hA hs hi, ?_⟩
  subst htr
  refine (reply_inv L' 1 g (t + 1) 0 M' o good draw w' hA hi (by omega) hd ho hw).mono ?_
  rintro e w2 ⟨rfl, L2, a1, a2⟩
  have hn : ¬ ofP 1 none := fun ⟨q, e⟩ => by cases e
  refine ⟨rfl, KAt.step (q2.keep hs hn) (fun k hk => (hs.lab k (Nat.lt_of_lt_of_le hk q4.size)).trans (q3 k hk)) (q4.trans (hs.below q4.size (fun k hk => by rw [q3 k hk]; exact hn))) a1 a2 (hi.replied (by omega) hd ho hw good), fun j v hv => ?_⟩
  rw [World.cell?_of_block (w := w') (a := ⟨gr, j, none⟩) (a2.block gr h5 (by rw [h6]; exact hl'))]
  exact h7 j v (by simpa using hv)
end Go.Proofs.YtojpjaifhjigfaaGreatDoor

/- conduitkeep.Tried. -/
namespace Go.Proofs.YtojpjaifhjigfaaGreatDoor
open Go.RowKit Go.Maps
attribute [local go_sem] run_store_float

abbrev triCells (zs : List Int) (b : Nat) : Array Value := (triC zs).cells (some b)
/-- Open of it, and the batch handed in. -/
theorem topen (zs : List Int) (b n gc : Nat) (w W : World) (hn : n ≤ 4) (hM : OM W b n (DT (madeT zs (1 + pickN (zs.getD 9 0) 4)))) (hB : Below w.heap.size w W) (hC : Blk W gc (triCells zs b) 25) :
    Calls Tryz.prog 26 #[(triC zs).val (some b), .string ⟨#[]⟩] W fun e w' => ∃ g M, e = .returned (.tuple #[.pointer (some ⟨g, 0, none⟩), .nilIface]) ∧ KAt w w' g gc (triCells zs b) 0 M ∧ M.refusal (triBat 0 0) = 0 ∧ TSt zs 0 0 0 (M.submitted (triBat 0 0)) := by
  refine (open_good (fun _ => none) 1 (triC zs) (some b) _ W (Or.inr ⟨b, n, rfl, hM, by unfold big; omega⟩) (tri_good zs)).mono ?_
  rintro e w' ⟨g, L', ns, rfl, h1, h2, _, h4, _, h6, _⟩
  exact ⟨g, _, rfl, ⟨L', h1, ⟨hC.below h4 hC.lt, (h6 gc hC.lt)⟩, fun k hk => h6 k (Nat.lt_of_lt_of_le hk hB.size), hB.trans (h4.mono hB.size), inv_new hM (tri_good zs) h2⟩, tri_ok zs ns, tri_wait zs ns⟩

/-- Nobody waits: the map is empty. -/
theorem counts_none {w : World} {b n : Nat} {D : DataW Unit} (h : OM w b n D) {f : List UInt8 → Nat} (hc : CountsAre D f) (hf : ∀ x, f x = 0) : Maps.size D = 0 := by
  rw [← size_strKeys h]
  cases hk : strKeys D with
  | nil => rfl
  | cons x xs =>
    have hx : x ∈ strKeys D := by rw [hk]; simp
    have h1 := (mem_strKeys h x).1 hx
    have h2 := (hc x (strKeys_le h Tryz.underlying9 x hx)).2 (hf x)
    rw [h1] at h2
    cases h2
theorem dead_waits {zs : List Int} {M : Ag} (h : TDead zs M) (x : List UInt8) : waits M.bs x = 0 := by
  have hp : ∀ d : Int, pend M.bs d x = [] := fun d => List.eq_nil_iff_forall_not_mem.2 fun i hi => by
    obtain ⟨b, h1, _, _, h4⟩ := mem_pend.1 hi
    rw [h.bs] at h1
    have := List.mem_of_getElem? h1
    rw [List.mem_singleton.1 this] at h4
    simp [triBat] at h4
  unfold waits
  simp [hp]
/-- How long the log is behind Compact. -/
theorem dead_log {zs : List Int} {M : Ag} (h : TDead zs M) : (recB 61 M.way).length = 16 := by
  obtain ⟨t1, t2, _⟩ := tri_bd zs
  have e : M.way = [tookEv (triBat 3 (triC zs).at'), Ev.of 3 0 (triC zs).at'.toNat] := by
    unfold Ag.way
    rw [h.bs, h.dead]
    rfl
  rw [e]
  rfl

/-- The last words: behind Compact all is told. -/
structure TEnd (zs : List Int) (w wr : World) (g gc : Nat) (cs : Array Value) (t : Nat) (M : Ag) : Prop where
  k : KAt w wr g gc cs t M
  d : TDead zs M
  l : M.log.length = 16
theorem TEnd.compact {zs : List Int} {w wr : World} {g gc : Nat} {cs : Array Value} {t : Nat} {M : Ag} (h : KAt w wr g gc cs t M) (hd : TDead zs M) :
    Calls Tryz.prog 32 #[.pointer (some ⟨g, 0, none⟩)] wr fun e w' => e = .returned (.tuple #[]) ∧ TEnd zs w w' g gc cs (t + 200) M.compacted := by
  obtain ⟨L, q1, q2, q3, q4, q5⟩ := h
  refine (compact_any L 1 g t M wr q1 q5).mono ?_
  rintro e w' ⟨rfl, L', a1, a2⟩
  exact ⟨rfl, KAt.step q2 q3 q4 a1 a2 q5.compacted, ⟨hd.bs, hd.wy, hd.dead, hd.c⟩, dead_log hd⟩
theorem TEnd.below {zs : List Int} {w wr w' : World} {g gc : Nat} {cs : Array Value} {t : Nat} {M : Ag} (h : TEnd zs w wr g gc cs t M) (hb : Below wr.heap.size wr w') : TEnd zs w w' g gc cs t M := ⟨h.k.below hb, h.d, h.l⟩
theorem TEnd.log {zs : List Int} {w wr : World} {g gc : Nat} {cs : Array Value} {t : Nat} {M : Ag} (h : TEnd zs w wr g gc cs t M) :
    Calls Tryz.prog 33 #[.pointer (some ⟨g, 0, none⟩)] wr fun e w' => e = .returned (encStr M.log) ∧ wr = w' := by
  obtain ⟨L, q1, _⟩ := h.k
  refine (log_any L 1 g M wr q1).mono ?_
  rintro e w' ⟨rfl, rfl⟩
  exact ⟨rfl, rfl⟩
theorem TEnd.status {zs : List Int} {w wr : World} {g gc : Nat} {cs : Array Value} {t : Nat} {M : Ag} (h : TEnd zs w wr g gc cs t M) :
    Calls Tryz.prog 34 #[.pointer (some ⟨g, 0, none⟩), .string ⟨#[120]⟩] wr fun e w' => e = .returned (.tuple #[.agg #[.int .i64 3, .int .i64 (triC zs).at'], .nilIface]) ∧ Below wr.heap.size wr w' := by
  obtain ⟨L, q1, _, _, _, q5⟩ := h.k
  exact status_some L 1 g M [120] 0 (triBat 3 (triC zs).at') wr q1 q5.b120 (by rw [h.d.bs]; rfl) (by rw [h.d.bs]; rfl)
theorem TEnd.dead {zs : List Int} {w wr : World} {g gc : Nat} {cs : Array Value} {t : Nat} {M : Ag} (h : TEnd zs w wr g gc cs t M) :
    Calls Tryz.prog 35 #[.pointer (some ⟨g, 0, none⟩)] wr fun e w' => ∃ gd, e = .returned (.slice (some ⟨gd, 0, none⟩) 1 1) ∧ w'.cell? ⟨gd, 0, none⟩ = some (encStr [120]) ∧ gd < w'.heap.size ∧ Below wr.heap.size wr w' := by
  obtain ⟨L, q1, _, _, _, q5⟩ := h.k
  have hids : M.ids = [[120]] := by unfold Ag.ids; rw [h.d.dead, h.d.bs]; rfl
  refine (dead_any L 1 g M wr q1 q5.dead_lt q5.b120 q5.dead_le).mono ?_
  rintro e w' ⟨gd, rfl, _, h2, h3⟩
  rw [hids] at h2 ⊢
  have hc := h2.cells (show (Value.slice (some ⟨gd, 0, none⟩) [[(120 : UInt8)]].length [[(120 : UInt8)]].length).ownBlock = some gd by simp [Value.ownBlock]) 0 (encStr [120]) rfl
  exact ⟨gd, rfl, hc, World.block_lt_of_cell? w' _ hc, h3⟩
theorem TEnd.waiting {zs : List Int} {w wr : World} {g gc : Nat} {cs : Array Value} {t : Nat} {M : Ag} (h : TEnd zs w wr g gc cs t M) :
    Calls Tryz.prog 36 #[.pointer (some ⟨g, 0, none⟩)] wr fun e w' => ∃ b, e = .returned (.map (some b)) ∧ (∀ ty, (Builtin.len_ #[22] ty #[.map (some b)]).run Tryz.prog w' = .ok (.int .i64 0) w') ∧ Below wr.heap.size wr w' := by
  obtain ⟨L, q1, _, _, _, q5⟩ := h.k
  refine (waiting_any L 1 g M wr q1 q5.b120).mono ?_
  rintro e w' ⟨b, n, D, rfl, _, h2, _, h4, h5⟩
  refine ⟨b, rfl, fun ty => ?_, h5⟩
  have := World.ownsMap.len (R := plainElem Tryz.prog 3) h2 Tryz.underlying22 ty
  rw [counts_none h2 h4 (dead_waits h.d)] at this
  exact this

set_option maxRecDepth 100000 in
set_option maxHeartbeats 4000000 in
theorem tried_any (A : Nat → Addr) (la sa : Option Addr) (cap scap : Nat) (zs ds : List Int) (w : World) (hS : Sents.Holds w 260 gl 11 A) (hr : ∀ z ∈ zs, InR z) (h : IntsAt w la zs) (hr2 : ∀ z ∈ ds, InR z) (h2 : IntsAt w sa ds) :
    Calls Tryz.prog 10 #[.slice la zs.length cap, .slice sa ds.length scap] w fun e w' => e = .returned (.bool true) ∧ Below w.heap.size w w' := by
  obtain ⟨t1, t2, t3, t4, t5⟩ := tri_bd zs
  have HMade := hide (made_any la cap zs w hr h)
  have HS := hide hS
  have HRaw := hide (fun (W : World) (k : Nat) (hW : Below w.heap.size w W) => (kraw_any sa scap ds k W (h2.below hW)).mono (fun e w' (h : e = _ ∧ w' = W) => (⟨h.1, h.2.symm⟩ : e = .returned (.int .i64 (ds.getD k 0)) ∧ W = w')))
  have HPick := hide (fun (W : World) (k : Nat) => (kpick_at ds hr2 k 1000000 1000000 rfl (by omega) W).mono (fun e w' (h : e = _ ∧ w' = W) => (⟨h.1, h.2.symm⟩ : e = .returned (.int .i64 (pickN (ds.getD k 0) 1000000)) ∧ W = w')))
  generalize zs.length = nz at *
  generalize ds.length = nds at *
  clear h hr hS h2 hr2
  go_enter Tryz.func10, Tryz.ntmps10
  go_wp2_with fail
  refine HMade.out.mono ?_
  rintro e w1 ⟨b, rfl, hb, ⟨n, hn, hM⟩, hB1⟩
  have HM := hide hM
  have HB1 := hide hB1
  have hbl : b < w1.heap.size := hM.lt
  clear hM hB1
  go_wp2_with fail
  generalize hW : World.alloc w1 _ = W
  have hC : Blk W w1.heap.size (triCells zs b) 25 := by rw [← hW]; exact Blk.new w1 _ _
  have hBW : Below w.heap.size w W := by rw [← hW]; exact HB1.out.alloc HB1.out.size _
  have hMW : OM W b n (DT (madeT zs (1 + pickN (zs.getD 9 0) 4))) := by rw [← hW]; exact HM.out.alloc _
  have HO := hide (topen zs b n w1.heap.size w W hn hMW hBW hC)
  clear hW hC hBW hMW HM
  generalize w1.heap.size = gc at *
  refine HO.out.mono ?_
  rintro e w2 ⟨g, M, rfl, hK, hok, hSt⟩
  have HSub : Hid (Calls Tryz.prog 27 #[.pointer (some ⟨g, 0, none⟩), .agg #[.int .i64 0, .string ⟨#[97]⟩, .string ⟨#[120]⟩, .string ⟨#[97, 98, 99]⟩]] w2 fun e w3 => e = .returned .nilIface ∧ KAt w w3 g gc (triCells zs b) 1 (M.submitted (triBat 0 0))) := by
    refine (ksubmit A HS.out hK (by omega) (triBat 0 0) (by simp [triBat, maxLen])).mono ?_
    rintro e w3 ⟨rfl, h3⟩
    rw [hok]
    exact ⟨rfl, h3⟩
  obtain ⟨aN, haN⟩ : ∃ aN : Nat, (triC zs).at' = aN := ⟨(triC zs).at'.toNat, by omega⟩
  obtain ⟨bN, hbN⟩ : ∃ bN : Nat, (triC zs).ba = bN := ⟨(triC zs).ba.toNat, by omega⟩
  obtain ⟨cN, hcN⟩ : ∃ cN : Nat, (triC zs).ca = cN := ⟨(triC zs).ca.toNat, by omega⟩
  have Hc3 : Hid (∀ wr t M, KAt w wr g gc (triCells zs b) t M → wr.cell? ⟨gc, 3, none⟩ = some (.int .i64 aN)) := fun wr t M hk => by rw [hk.cell 3, ← haN]; rfl
  have Hc4 : Hid (∀ wr t M, KAt w wr g gc (triCells zs b) t M → wr.cell? ⟨gc, 4, none⟩ = some (.int .i64 bN)) := fun wr t M hk => by rw [hk.cell 4, ← hbN]; rfl
  have Hc5 : Hid (∀ wr t M, KAt w wr g gc (triCells zs b) t M → wr.cell? ⟨gc, 5, none⟩ = some (.int .i64 cN)) := fun wr t M hk => by rw [hk.cell 5, ← hcN]; rfl
  rw [haN] at t1 t2
  rw [hbN] at t3 t4
  rw [hcN] at t4 t5
  have HaN := hide haN
  have HbN := hide hbN
  have HcN := hide hcN
  have HSt := hide hSt
  clear hK hok hSt HO haN hbN hcN
  generalize hcs : triCells zs b = cs at *
  generalize hM0 : M.submitted (triBat 0 0) = M0 at *
  clear hcs hM0
  go_wp2_with fail
  refine HSub.out.mono ?_
  rintro e w3 ⟨rfl, hK⟩
  have HK := hide hK
  clear hK HSub
  go_wp2_with fail
  go_loopw [9, 10, 11] (fun tr qu i wr => ∃ (k f q t : Nat) (M : Ag), k ≤ 10 * cN + 100 ∧ f ≤ 5 ∧ q ≤ k ∧ t ≤ 1 + 2 * k ∧ tr = .int .i64 f ∧ qu = .int .i64 q ∧ i = .int .i64 k ∧ TSt zs k f q M ∧ KAt w wr g gc cs t M) (fun _ _ i _ => 10 * cN + 100 - (intOf i).toNat)
  case atStart => exact ⟨0, 0, 0, 1, M0, Nat.zero_le _, Nat.zero_le _, Nat.zero_le _, by omega, rfl, rfl, rfl, HSt.out, HK.out⟩
  case round =>
    clear HSt HK
    obtain ⟨k, f, q, t, M, hk, hf5, hq, ht, rfl, rfl, rfl, hT, hK⟩ := hrel
    have d5 := Hc5.out wr t M hK
    by_cases hlt : k < 10 * cN + 100
    · have hltI : (k : Int) < 10 * (cN : Int) + 100 := by omega
      obtain ⟨z, hz⟩ : ∃ z, ds.getD f 0 = z := ⟨_, rfl⟩
      obtain ⟨d, hd⟩ : ∃ d, pickN z 1000000 = d := ⟨_, rfl⟩
      have HR1 : Hid (Calls Tryz.prog 29 #[.slice sa nds scap, .int .i64 f] wr fun e w' => e = .returned (.int .i64 z) ∧ wr = w') := by have := HRaw.out wr f hK.b; rw [hz] at this; exact this
      have HP1 : Hid (Calls Tryz.prog 28 #[.int .i64 z, .int .i64 1000000] wr fun e w' => e = .returned (.int .i64 d) ∧ wr = w') := by have := HPick.out wr f; rw [hz, hd] at this; exact this
      clear hz hd
      rcases hT.step hK.inv (by omega) (draw := (d : Int)) (by omega) with ⟨M', he, hT'⟩ | ⟨M', s, he, htr, hid, ⟨o', ho', hw', hsn⟩, hq', hT'⟩
      · have HTk := hide (dtick0 hK (by omega) (ms := 1) (draw := (d : Int)) (by omega) (by omega) (by omega) he)
        have HT' := hide hT'
        clear hT hK he hT'
        go_wp2_with fail
        refine HR1.out.mono ?_
        rintro _ _ ⟨rfl, rfl⟩
        go_wp2_with fail
        refine HP1.out.mono ?_
        rintro _ _ ⟨rfl, rfl⟩
        go_wp2_with fail
        refine HTk.out.mono ?_
        rintro e w4 ⟨ra, rcap, rfl, hK4⟩
        have HK4 := hide hK4
        clear hK4
        go_wp2_with fail
        go_roundw
        case rel => exact ⟨k + 1, f, q + 1, t + 1, M', by omega, by omega, by omega, by omega, rfl, by go_num, by go_num, HT'.out, HK4.out⟩
        case measure => simp [intOf]; omega
      · have HTk := hide (dtick1 hK (by omega) (ms := 1) (draw := (d : Int)) (by omega) (by omega) (by omega) he ho' hw' ((f : Int) + 1) hsn.symm false)
        have hf4 : f < 5 := by
          rcases hT'.2 with ⟨_, e1⟩ | ⟨_, _, e1, _⟩
          · rw [HaN.out] at e1; omega
          · rw [HaN.out] at e1; omega
        have HT' := hide hT'
        have Htr := hide htr
        have Hid' := hide hid
        have hqq : 0 < f → (bN : Int) ≤ (q : Int) + 1 ∧ (q : Int) + 1 ≤ (cN : Int) := fun h => by have := hq' h; rw [HbN.out, HcN.out] at this; exact this
        have Hqq := hide hqq
        clear hT hK he hT' htr hid ho' hw' hsn hq' hqq
        go_wp2_with fail
        refine HR1.out.mono ?_
        rintro _ _ ⟨rfl, rfl⟩
        go_wp2_with fail
        refine HP1.out.mono ?_
        rintro _ _ ⟨rfl, rfl⟩
        go_wp2_with fail
        refine HTk.out.mono ?_
        rintro e w4 ⟨gr, rcap, rfl, hK4, hRp⟩
        have d4 := Hc4.out w4 _ _ hK4
        have d5' := Hc5.out w4 _ _ hK4
        have HRp := hide hRp
        clear hK4 hRp
        by_cases hf0 : 0 < f
        · have hf0I : (0 : Int) < (f : Int) := by omega
          obtain ⟨a1, a2⟩ := Hqq.out hf0
          have n1 : ¬ ((q : Int) + 1 < (bN : Int)) := by omega
          have n2 : ¬ ((cN : Int) < (q : Int) + 1) := by omega
          go_wp2_with fail
          refine HRp.out.mono ?_
          rintro e w5 ⟨rfl, hK5, hc5⟩
          have g1 : w5.cell? ⟨gr, 1, none⟩ = some (.int .i64 ((f : Int) + 1)) := by rw [← Htr.out]; exact hc5 1 _ rfl
          have g2 : w5.cell? ⟨gr, 2, none⟩ = some (.string ⟨#[120]⟩) := by have := hc5 2 _ rfl; rw [Hid'.out] at this; exact this
          have HK5 := hide hK5
          clear hK5 hc5
          go_wp2_with fail
          go_roundw
          case rel => exact ⟨k + 1, f + 1, 0, t + 2, _, by omega, by omega, by omega, by omega, by go_num, rfl, by go_num, HT'.out, HK5.out⟩
          case measure => simp [intOf]; omega
        · obtain rfl : 0 = f := by omega
          have hf0I : ¬ ((0 : Int) < ((0 : Nat) : Int)) := by omega
          go_wp2_with fail
          refine HRp.out.mono ?_
          rintro e w5 ⟨rfl, hK5, hc5⟩
          have g1 : w5.cell? ⟨gr, 1, none⟩ = some (.int .i64 (((0 : Nat) : Int) + 1)) := by rw [← Htr.out]; exact hc5 1 _ rfl
          have g2 : w5.cell? ⟨gr, 2, none⟩ = some (.string ⟨#[120]⟩) := by have := hc5 2 _ rfl; rw [Hid'.out] at this; exact this
          have HK5 := hide hK5
          clear hK5 hc5
          go_wp2_with fail
          go_roundw
          case rel => exact ⟨k + 1, 0 + 1, 0, t + 2, _, by omega, by omega, by omega, by omega, by go_num, rfl, by go_num, HT'.out, HK5.out⟩
          case measure => simp [intOf]; omega
    · have hgtI : ¬ ((k : Int) < 10 * (cN : Int) + 100) := by omega
      obtain ⟨hD, hfa⟩ := hT.final (by rw [HcN.out]; omega)
      rw [HaN.out] at hfa
      have HCp := hide (TEnd.compact hK hD)
      obtain rfl : f = aN := by omega
      generalize hM2 : M.compacted = M2 at *
      clear hD hfa hT hK HRaw HPick hM2
      go_wp2_with fail
      refine HCp.out.mono ?_
      rintro e w4 ⟨rfl, hE⟩
      have HE := hide hE
      clear hE HCp d5
      go_wp2_with fail
      refine HE.out.log.mono ?_
      rintro _ _ ⟨rfl, rfl⟩
      go_wp2_with fail
      refine HE.out.status.mono ?_
      rintro e w5 ⟨rfl, hb5⟩
      have HE5 := hide (HE.out.below hb5)
      rw [HaN.out]
      clear hb5
      go_wp2_with fail
      generalize hW6 : World.alloc w5 _ = W6
      have hb6 : Below w5.heap.size w5 W6 := by rw [← hW6]; exact (Below.refl _ _).alloc (Nat.le_refl _) _
      have hst6 : Blk W6 w5.heap.size #[.int .i64 3, .int .i64 f] 82 := by rw [← hW6]; exact Blk.new w5 _ _
      have HE6 := hide (HE5.out.below hb6)
      have Hst6 := hide hst6
      clear hW6 hb6 hst6
      generalize w5.heap.size = gs at *
      refine HE6.out.dead.mono ?_
      rintro e w7 ⟨gd, rfl, hgd, hgl, hb7⟩
      have HE7 := hide (HE6.out.below hb7)
      have Hst7 := hide (Hst6.out.below hb7 Hst6.out.lt)
      have Hgd := hide hgd
      clear hb7 hgd
      go_wp2_with fail
      refine HE7.out.waiting.mono ?_
      rintro e w8 ⟨bw, rfl, hlen, hb8⟩
      have hE8 := HE7.out.below hb8
      have hst8 := Hst7.out.below hb8 Hst7.out.lt
      have s0 : w8.cell? ⟨gs, 0, none⟩ = some (.int .i64 3) := hst8.cell 0
      have s1 : w8.cell? ⟨gs, 1, none⟩ = some (.int .i64 f) := hst8.cell 1
      have s2 : w8.cell? ⟨gd, 0, none⟩ = some (.string ⟨#[120]⟩) := (hb8.cell (p := ⟨gd, 0, none⟩) hgl).trans Hgd.out
      have s3 := Hc3.out w8 _ _ hE8.k
      have hll : M2.log.length = 16 := hE8.l
      have HB8 := hide hE8.k.b
      generalize M2.log = lg at *
      clear hb8 hE8 hst8
      go_wp2_with fail
      go_ret
      exact ⟨rfl, HB8.out⟩
end Go.Proofs.YtojpjaifhjigfaaGreatDoor
