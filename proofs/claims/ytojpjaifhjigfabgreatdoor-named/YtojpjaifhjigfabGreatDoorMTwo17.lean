/- Steps of the proof (several texts in one): ShortWay, Compact, LogKept. -/
import Derived.Test.YtojpjaifhjigfabGreatDoorMTwo10
import Derived.Test.YtojpjaifhjigfabGreatDoorMTwo14
import Derived.Test.YtojpjaifhjigfabGreatDoorMTwo16

/- shortWay: two events a batch at most. -/
namespace Go.Proofs.YtojpjaifhjigfabGreatDoor
open Go.RowKit Go.Maps

theorem ownsRow_base {w : World} {base : Nat} {e : TypeId} {size : Nat} {v : Value} {n : Nat} {xs : List Value} (h : w.ownsRow base e size v n xs) : ∀ j, v.ownBlock = some j → base ≤ j := fun j hj => by
  rcases h.2 with ⟨rfl, _⟩ | ⟨g, cap, cur, rfl, hg, _⟩
  · simp [Value.ownBlock] at hj
  · have : g = j := by simpa [Value.ownBlock] using hj
    omega

/-- A batch was taken. -/
def tookEv (b : Bat) : Ev := ⟨0, b, 0, 0⟩
/-- What has become of it, if it is not dead. -/
def endEv (p : Nat) (b : Bat) : List Ev := if b.st = 2 then [Ev.of 1 p b.fl.toNat] else if b.st = 1 ∧ 0 < b.fl then [Ev.of 2 p b.fl.toNat] else []
def endsOf (bs : List Bat) : Nat → List Ev
  | 0 => []
  | k + 1 => endsOf bs k ++ match bs[k]? with | some b => endEv k b | none => []
def diedEv (bs : List Bat) (p : Nat) : Ev := Ev.of 3 p (((bs[p]?).map (·.fl.toNat)).getD 0)
/-- The short way to what an agent has. -/
def Ag.way (M : Ag) : List Ev := M.bs.map tookEv ++ endsOf M.bs M.bs.length ++ M.dead.map (diedEv M.bs)
theorem endsOf_le (bs : List Bat) : ∀ k, (endsOf bs k).length ≤ k
  | 0 => Nat.le_refl _
  | k + 1 => by
    have := endsOf_le bs k
    unfold endsOf
    rw [List.length_append]
    have h2 : (match bs[k]? with | some b => endEv k b | none => []).length ≤ 1 := by
      cases bs[k]? with
      | none => simp
      | some b => simp only [endEv]; split; exact Nat.le_refl _; split; exact Nat.le_refl _; simp
    omega
def Ways (w w' : World) (es : List Ev) (e : Ending) : Prop := ∃ v, e = .returned v ∧ w'.ownsRow w.heap.size 115 7 v es.length (es.flatMap Ev.cells) ∧ Below w.heap.size w w'
/-- Events in a row of the function's own. -/
def EvsAt (w wr : World) (v : Value) (es : List Ev) : Prop := wr.ownsRow w.heap.size 115 7 v es.length (es.flatMap Ev.cells) ∧ Below w.heap.size w wr
theorem EvsAt.more {w wr w2 w3 : World} {v : Value} {es : List Ev} {e : Ev} {n g3 cap3 : Nat} (h : EvsAt w wr v es) (hn : es.length = n) (hb : Below wr.heap.size wr w2) (ho : w3.ownsRow w.heap.size 115 7 (.slice (some ⟨g3, 0, none⟩) (n + 1) cap3) (n + 1) (es.flatMap Ev.cells ++ e.cells)) (hg : w2.grownBy w3 v.ownBlock) : EvsAt w w3 (.slice (some ⟨g3, 0, none⟩) (n + 1) cap3) (es ++ [e]) := by
  refine ⟨?_, ((h.2.trans (hb.mono h.2.size))).grown hg (Nat.le_trans h.2.size hb.size) (fun j hj => ownsRow_base h.1 j hj)⟩
  rw [List.length_append, List.flatMap_append, hn]
  simpa using ho
theorem two_below (w : World) (o o' : Obj) : Below w.heap.size w ((w.alloc o).alloc o') := ((Below.refl _ _).alloc (Nat.le_refl _) _).alloc (by simp) _

set_option maxRecDepth 100000 in
set_option maxHeartbeats 2000000 in
theorem shortWay_any (L : Labs) (who g : Nat) (M : Ag) (w : World) (h : AgentAt w L who g M) (hd : ∀ p ∈ M.dead, p < M.bs.length) (hb : M.bs.length ≤ 120) (hdl : M.dead.length ≤ 120) (hfl : ∀ b ∈ M.bs, 0 ≤ b.fl) :
    Calls Tryz.prog 29 #[.pointer (some ⟨g, 0, none⟩)] w fun e w' => Ways w w' M.way e := by
  obtain ⟨bq, bm, cn, tv, dv, nv, rv, ov, h⟩ := h
  obtain ⟨da, dc, rfl, _⟩ := h.dd.shape
  obtain ⟨ta, tc, rfl, _⟩ := h.tk.shape
  have c0 : w.cell? ⟨g, 0, none⟩ = some (.slice ta M.bs.length tc) := h.blk.1.cell 0
  have c2 : w.cell? ⟨g, 2, none⟩ = some (.slice da M.dead.length dc) := h.blk.1.cell 2
  have hgl := h.blk.1.lt
  obtain ⟨i0, hi, hz0, hz1, hz2⟩ := info_parts infoEvent3
  have HD := hide hd
  have HH := hide h
  have HF := hide hfl
  have HC2 := hide c2
  generalize hn : M.dead.length = n at *
  generalize hm : M.bs.length = m at *
  have Hn := hide hn
  have Hm := hide hm
  clear hd h hn hm hfl c2
  go_enter Tryz.func29, Tryz.ntmps29
  go_wp2_with fail
  go_loopw [3, 15] (fun v i wr => ∃ (k : Nat) (ea : Option Addr) (ek : Nat), k ≤ m ∧ i = .int .i64 k ∧ v = .slice ea k ek ∧ EvsAt w wr (.slice ea k ek) ((M.bs.take k).map tookEv)) (fun _ i _ => m - (intOf i).toNat)
  case atStart => exact ⟨0, none, 0, Nat.zero_le _, rfl, rfl, World.ownsRow_nil _ _ _ _, Below.refl _ _⟩
  case round =>
    obtain ⟨k, ea, ek, hk, rfl, rfl, hE⟩ := hrel
    have HE := hide hE
    clear hE
    by_cases hlt : k < m
    · have hltI : (k : Int) < (m : Int) := by omega
      obtain ⟨gt, rfl, hgt, _, hct, _⟩ := (show RowAt w L (some (who, .tk)) 73 6 (.slice ta m tc) m (M.bs.flatMap Bat.cells) by have := HH.out.tk; rw [Hm.out] at this; exact this).head (by omega)
      obtain ⟨b, hb'⟩ : ∃ b, M.bs[k]? = some b := ⟨_, List.getElem?_eq_getElem (by rw [Hm.out]; exact hlt)⟩
      have HR : Hid (wr.rangeAt gt (k * 6) b.cells) := fun j v hv => by
        rw [HE.out.2.cell (p := ⟨gt, _, none⟩) hgt]
        exact hct _ _ (flat_cell Bat.cells 6 Bat.cells_length hb' (by have := (List.getElem?_eq_some_iff.1 hv).1; rw [Bat.cells_length] at this; exact this) hv)
      have hlen : ((M.bs.take k).map tookEv).length = k := by rw [List.length_map, List.length_take, Hm.out]; omega
      have hE := HE.out.1
      rw [hlen] at hE
      have HEr := hide hE
      have Hlen := hide hlen
      have Hb := hide hb'
      clear hct hb' hlen hE
      go_wp2_with (first
        | (refine wpList_load_mid rfl 73 _ rfl gt (k * 6) rfl [.int .i64 b.dst, encStr b.ten, encStr b.id, encStr b.body, .int .i64 b.st, .int .i64 b.fl] _ HR.out Tryz.underlying73 rfl infoPBatch ?_)
        | (at_builtin; refine wpList_append_lies _ rfl _ _ 82 rfl w.heap.size 115 i0 (.agg #[.int .i64 0, .int .i64 0, .string ⟨#[]⟩, .string ⟨#[]⟩, .string ⟨#[]⟩, .int .i64 0, .int .i64 0]) 7 80 Tryz.underlying82 hi hz0 hz1 hz2 rfl (by decide) (.slice ea k ek) k _ rfl ((HEr.out.alloc _).alloc _) ⟨wr.heap.size + 1, 0, none⟩ 1 1 (tookEv b).cells rfl rfl (World.news_of_block (cs := (tookEv b).cells.toArray) (t := 115) (fr := (0, 0)) (obj_new (by simp) _)) (by simp [Value.oneCell', Ev.cells, encStr]) (by decide) (by unfold maxLen; omega) (by omega) (by simp; have := HE.out.2.size; omega) (wr.heap.size + 2) (by simp) ?_; intro g3 cap3 w3 hown3 hg3 hat3 hlt3; have Ho3 := hide hown3; have Hg3 := hide hg3; clear hown3 hg3 hat3)
        | fail)
      go_roundw
      case rel =>
        refine ⟨k + 1, some ⟨g3, 0, none⟩, cap3, by omega, by go_num, rfl, ?_⟩
        have h3 := HE.out.more Hlen.out (two_below wr _ _) Ho3.out Hg3.out
        rw [List.take_add_one, Hb.out, List.map_append]
        exact h3
      case measure => simp [intOf]; omega
    · have hkm : k = m := by omega
      subst hkm
      have HE2 : Hid (EvsAt w wr (.slice ea k ek) (M.bs.map tookEv ++ endsOf M.bs 0)) := by
        have := HE.out
        rw [List.take_of_length_le (by rw [Hm.out]; exact Nat.le_refl _)] at this
        exact (show EvsAt w wr (.slice ea k ek) (M.bs.map tookEv ++ endsOf M.bs 0) by simpa [endsOf] using this)
      have e0 : wr.cell? ⟨g, 0, none⟩ = some (.slice ta k tc) := (HE2.out.2.cell (p := ⟨g, 0, none⟩) hgl).trans c0
      have HC0 := hide c0
      clear HE c0 hlt hk
      go_wp2_with fail
      clear e0
      go_loopw [3, 31] (fun v i wr => ∃ (j : Nat) (ea : Option Addr) (c ek : Nat), j ≤ k ∧ i = .int .i64 j ∧ v = .slice ea c ek ∧ (M.bs.map tookEv ++ endsOf M.bs j).length = c ∧ EvsAt w wr (.slice ea c ek) (M.bs.map tookEv ++ endsOf M.bs j)) (fun _ i _ => k - (intOf i).toNat)
      case atStart => exact ⟨0, ea, k, ek, Nat.zero_le _, rfl, rfl, by simp [endsOf, Hm.out], HE2.out⟩
      case round =>
        clear HE2
        obtain ⟨j, ea, c, ek, hj, rfl, rfl, hc, hE⟩ := hrel
        have HE := hide hE
        have hc240 : c ≤ 240 := by
          rw [← hc, List.length_append, List.length_map, Hm.out]
          have := endsOf_le M.bs j
          omega
        have HEr : Hid (wr.ownsRow w.heap.size 115 7 (.slice ea c ek) c ((M.bs.map tookEv ++ endsOf M.bs j).flatMap Ev.cells)) := by have := hE.1; rw [hc] at this; exact this
        have Hc := hide hc
        clear hE hc
        by_cases hlt : j < k
        · have hltI : (j : Int) < (k : Int) := by omega
          obtain ⟨gt, rfl, hgt, _, hct, _⟩ := (show RowAt w L (some (who, .tk)) 73 6 (.slice ta k tc) k (M.bs.flatMap Bat.cells) by have := HH.out.tk; rw [Hm.out] at this; exact this).head (by omega)
          obtain ⟨b, hb'⟩ : ∃ b, M.bs[j]? = some b := ⟨_, List.getElem?_eq_getElem (by rw [Hm.out]; exact hlt)⟩
          have HR : Hid (wr.rangeAt gt (j * 6) b.cells) := fun i v hv => by
            rw [HE.out.2.cell (p := ⟨gt, _, none⟩) hgt]
            exact hct _ _ (flat_cell Bat.cells 6 Bat.cells_length hb' (by have := (List.getElem?_eq_some_iff.1 hv).1; rw [Bat.cells_length] at this; exact this) hv)
          have hf0 := HF.out b (List.mem_of_getElem? hb')
          have Hsucc : Hid (endsOf M.bs (j + 1) = endsOf M.bs j ++ endEv j b) := by show _ = _; simp only [endsOf, hb']
          obtain ⟨d0, t0, id0, bo0, st0, fl0⟩ := b
          obtain ⟨f, rfl⟩ : ∃ f : Nat, fl0 = f := ⟨fl0.toNat, by simp at hf0; omega⟩
          clear hct hb' hf0
          by_cases hst2 : st0 = 2
          · subst hst2
            have Hev : Hid (endsOf M.bs (j + 1) = endsOf M.bs j ++ [Ev.of 1 j f]) := by rw [Hsucc.out]; rfl
            clear Hsucc
            go_wp2_with (first
              | (refine wpList_load_mid rfl 73 _ rfl gt (j * 6) rfl [.int .i64 d0, encStr t0, encStr id0, encStr bo0, .int .i64 2, .int .i64 f] _ HR.out Tryz.underlying73 rfl infoPBatch ?_)
              | (at_builtin; refine wpList_append_lies _ rfl _ _ 82 rfl w.heap.size 115 i0 (.agg #[.int .i64 0, .int .i64 0, .string ⟨#[]⟩, .string ⟨#[]⟩, .string ⟨#[]⟩, .int .i64 0, .int .i64 0]) 7 80 Tryz.underlying82 hi hz0 hz1 hz2 rfl (by decide) (.slice ea c ek) c _ rfl ((HEr.out.alloc _).alloc _) ⟨wr.heap.size + 1, 0, none⟩ 1 1 (Ev.of 1 j f).cells rfl rfl (World.news_of_block (cs := (Ev.of 1 j f).cells.toArray) (t := 115) (fr := (0, 0)) (obj_new (by simp) _)) (by simp [Value.oneCell', Ev.cells, encStr, Ev.of, noBat]) (by decide) (by unfold maxLen; omega) (by omega) (by simp; have := HE.out.2.size; omega) (wr.heap.size + 2) (by simp) ?_; intro g3 cap3 w3 hown3 hg3 hat3 hlt3; have Ho3 := hide hown3; have Hg3 := hide hg3; clear hown3 hg3 hat3)
              | fail)
            go_roundw
            case rel =>
              refine ⟨j + 1, some ⟨g3, 0, none⟩, c + 1, cap3, by omega, by go_num, rfl, ?_, ?_⟩
              · rw [Hev.out, ← List.append_assoc, List.length_append, Hc.out]; rfl
              · rw [Hev.out, ← List.append_assoc]
                exact HE.out.more Hc.out (two_below wr _ _) Ho3.out Hg3.out
            case measure => simp [intOf]; omega
          · by_cases hst1 : st0 = 1
            · subst hst1
              by_cases hf : 0 < f
              · have hfI : (0 : Int) < (f : Int) := by omega
                have Hev : Hid (endsOf M.bs (j + 1) = endsOf M.bs j ++ [Ev.of 2 j f]) := by show _ = _; rw [Hsucc.out]; simp [endEv, hf]
                clear Hsucc
                go_wp2_with (first
                  | (refine wpList_load_mid rfl 73 _ rfl gt (j * 6) rfl [.int .i64 d0, encStr t0, encStr id0, encStr bo0, .int .i64 1, .int .i64 f] _ HR.out Tryz.underlying73 rfl infoPBatch ?_)
                  | (at_builtin; refine wpList_append_lies _ rfl _ _ 82 rfl w.heap.size 115 i0 (.agg #[.int .i64 0, .int .i64 0, .string ⟨#[]⟩, .string ⟨#[]⟩, .string ⟨#[]⟩, .int .i64 0, .int .i64 0]) 7 80 Tryz.underlying82 hi hz0 hz1 hz2 rfl (by decide) (.slice ea c ek) c _ rfl ((HEr.out.alloc _).alloc _) ⟨wr.heap.size + 1, 0, none⟩ 1 1 (Ev.of 2 j f).cells rfl rfl (World.news_of_block (cs := (Ev.of 2 j f).cells.toArray) (t := 115) (fr := (0, 0)) (obj_new (by simp) _)) (by simp [Value.oneCell', Ev.cells, encStr, Ev.of, noBat]) (by decide) (by unfold maxLen; omega) (by omega) (by simp; have := HE.out.2.size; omega) (wr.heap.size + 2) (by simp) ?_; intro g3 cap3 w3 hown3 hg3 hat3 hlt3; have Ho3 := hide hown3; have Hg3 := hide hg3; clear hown3 hg3 hat3)
                  | fail)
                go_roundw
                case rel =>
                  refine ⟨j + 1, some ⟨g3, 0, none⟩, c + 1, cap3, by omega, by go_num, rfl, ?_, ?_⟩
                  · rw [Hev.out, ← List.append_assoc, List.length_append, Hc.out]; rfl
                  · rw [Hev.out, ← List.append_assoc]
                    exact HE.out.more Hc.out (two_below wr _ _) Ho3.out Hg3.out
                case measure => simp [intOf]; omega
              · obtain rfl : f = 0 := by omega
                have Hev : Hid (endsOf M.bs (j + 1) = endsOf M.bs j) := by show _ = _; rw [Hsucc.out]; simp [endEv]
                clear Hsucc
                go_wp2_with (first
                  | (refine wpList_load_mid rfl 73 _ rfl gt (j * 6) rfl [.int .i64 d0, encStr t0, encStr id0, encStr bo0, .int .i64 1, .int .i64 0] _ HR.out Tryz.underlying73 rfl infoPBatch ?_)
                  | fail)
                go_roundw
                case rel =>
                  refine ⟨j + 1, ea, c, ek, by omega, by go_num, rfl, ?_, ?_⟩
                  · rw [Hev.out]; exact Hc.out
                  · rw [Hev.out]
                    exact ⟨HE.out.1.alloc _, HE.out.2.alloc HE.out.2.size _⟩
                case measure => simp [intOf]; omega
            · have Hev : Hid (endsOf M.bs (j + 1) = endsOf M.bs j) := by show _ = _; rw [Hsucc.out]; simp [endEv, hst1, hst2]
              clear Hsucc
              go_wp2_with (first
                | (refine wpList_load_mid rfl 73 _ rfl gt (j * 6) rfl [.int .i64 d0, encStr t0, encStr id0, encStr bo0, .int .i64 st0, .int .i64 f] _ HR.out Tryz.underlying73 rfl infoPBatch ?_)
                | fail)
              go_roundw
              case rel =>
                refine ⟨j + 1, ea, c, ek, by omega, by go_num, rfl, ?_, ?_⟩
                · rw [Hev.out]; exact Hc.out
                · rw [Hev.out]
                  exact ⟨HE.out.1.alloc _, HE.out.2.alloc HE.out.2.size _⟩
              case measure => simp [intOf]; omega
        · have hjk : j = k := by omega
          subst hjk
          have e2 : wr.cell? ⟨g, 2, none⟩ = some (.slice da n dc) := (HE.out.2.cell (p := ⟨g, 2, none⟩) hgl).trans HC2.out
          have HW : Hid (M.way = M.bs.map tookEv ++ endsOf M.bs j ++ M.dead.map (diedEv M.bs)) := by unfold Ag.way; rw [Hm.out]; rfl
          generalize hbase : M.bs.map tookEv ++ endsOf M.bs j = base at *
          clear hbase hlt hj
          go_wp2_with fail
          clear e2
          go_loopw [3, 74] (fun v i wr => ∃ (q : Nat) (ea : Option Addr) (c ek : Nat), q ≤ n ∧ i = .int .i64 q ∧ v = .slice ea c ek ∧ (base ++ (M.dead.take q).map (diedEv M.bs)).length = c ∧ EvsAt w wr (.slice ea c ek) (base ++ (M.dead.take q).map (diedEv M.bs))) (fun _ i _ => n - (intOf i).toNat)
          case atStart => exact ⟨0, ea, c, ek, Nat.zero_le _, rfl, rfl, by simpa using Hc.out, by simpa using HE.out⟩
          case round =>
            clear HE HEr
            obtain ⟨q, ea, c2, ek, hq, rfl, rfl, hc, hE⟩ := hrel
            have HE := hide hE
            have hc360 : c2 ≤ 360 := by
              have h1 := Hc.out
              rw [← hc, List.length_append, List.length_map, List.length_take]
              omega
            have HEr : Hid (wr.ownsRow w.heap.size 115 7 (.slice ea c2 ek) c2 ((base ++ (M.dead.take q).map (diedEv M.bs)).flatMap Ev.cells)) := by have := hE.1; rw [hc] at this; exact this
            have Hc2 := hide hc
            clear hE hc
            by_cases hlt : q < n
            · have hltI : (q : Int) < (n : Int) := by omega
              obtain ⟨gd, rfl, hgd, _, hcd, _⟩ := (show RowAt w L (some (who, .dd)) 3 1 (.slice da n dc) n (ints M.dead) by have := HH.out.dd; rw [Hn.out] at this; exact this).head (by omega)
              obtain ⟨p, hp⟩ : ∃ p, M.dead[q]? = some p := ⟨_, List.getElem?_eq_getElem (by rw [Hn.out]; exact hlt)⟩
              have hpm : p < j := by have := HD.out p (List.mem_of_getElem? hp); omega
              have hpI : (p : Int) < (j : Int) := by omega
              obtain ⟨gt, rfl, hgt, _, hct, _⟩ := (show RowAt w L (some (who, .tk)) 73 6 (.slice ta j tc) j (M.bs.flatMap Bat.cells) by have := HH.out.tk; rw [Hm.out] at this; exact this).head (by omega)
              obtain ⟨b, hb'⟩ : ∃ b, M.bs[p]? = some b := ⟨_, List.getElem?_eq_getElem (by rw [Hm.out]; exact hpm)⟩
              have hf0 := HF.out b (List.mem_of_getElem? hb')
              obtain ⟨f, hf⟩ : ∃ f : Nat, b.fl = f := ⟨b.fl.toNat, by omega⟩
              have e0 : wr.cell? ⟨g, 0, none⟩ = some (.slice (some ⟨gt, 0, none⟩) j tc) := (HE.out.2.cell (p := ⟨g, 0, none⟩) hgl).trans HC0.out
              have e1 : wr.cell? ⟨gd, q, none⟩ = some (.int .i64 p) := by rw [HE.out.2.cell (p := ⟨gd, q, none⟩) hgd]; exact hcd q _ (ints_get hp)
              have e2 : wr.cell? ⟨gt, p * 6 + 5, none⟩ = some (.int .i64 f) := by rw [HE.out.2.cell (p := ⟨gt, _, none⟩) hgt, ← hf]; exact hct _ _ (flat_cell Bat.cells 6 Bat.cells_length hb' (by omega) rfl)
              have Hsucc : Hid ((M.dead.take (q + 1)).map (diedEv M.bs) = (M.dead.take q).map (diedEv M.bs) ++ [Ev.of 3 p f]) := by
                show _ = _
                rw [List.take_add_one, hp, List.map_append]
                simp [diedEv, hb', hf]
              clear hcd hct hp hb' hf hf0
              go_wp2_with (first
                | (at_builtin; refine wpList_append_lies _ rfl _ _ 82 rfl w.heap.size 115 i0 (.agg #[.int .i64 0, .int .i64 0, .string ⟨#[]⟩, .string ⟨#[]⟩, .string ⟨#[]⟩, .int .i64 0, .int .i64 0]) 7 80 Tryz.underlying82 hi hz0 hz1 hz2 rfl (by decide) (.slice ea c2 ek) c2 _ rfl (HEr.out.alloc _) ⟨wr.heap.size, 0, none⟩ 1 1 (Ev.of 3 p f).cells rfl rfl (World.news_of_block (cs := (Ev.of 3 p f).cells.toArray) (t := 115) (fr := (0, 0)) (obj_new (by simp) _)) (by simp [Value.oneCell', Ev.cells, encStr, Ev.of, noBat]) (by decide) (by unfold maxLen; omega) (by omega) (by simp; have := HE.out.2.size; omega) (wr.heap.size + 1) (by simp) ?_; intro g3 cap3 w3 hown3 hg3 hat3 hlt3; have Ho3 := hide hown3; have Hg3 := hide hg3; clear hown3 hg3 hat3)
                | fail)
              go_roundw
              case rel =>
                refine ⟨q + 1, some ⟨g3, 0, none⟩, c2 + 1, cap3, by omega, by go_num, rfl, ?_, ?_⟩
                · rw [Hsucc.out, ← List.append_assoc, List.length_append, Hc2.out]; rfl
                · rw [Hsucc.out, ← List.append_assoc]
                  exact HE.out.more Hc2.out ((Below.refl _ _).alloc (Nat.le_refl _) _) Ho3.out Hg3.out
              case measure => simp [intOf]; omega
            · have hqn : q = n := by omega
              subst hqn
              go_wp2_with fail
              go_ret
              have h1 := HE.out
              rw [List.take_of_length_le (by rw [Hn.out]; exact Nat.le_refl _), ← HW.out] at h1
              exact ⟨_, rfl, h1⟩
end Go.Proofs.YtojpjaifhjigfabGreatDoor

/- Compact and Log. -/
namespace Go.Proofs.YtojpjaifhjigfabGreatDoor
open Go.RowKit Go.Maps

theorem ownsRow_zero {w : World} {base : Nat} {e : TypeId} {size : Nat} {v : Value} {n : Nat} {xs : List Value} (h : w.ownsRow base e size v n xs) : w.ownsRow 0 e size v n xs :=
  ⟨h.1, h.2.imp id (fun ⟨g, cap, cur, e, _, r⟩ => ⟨g, cap, cur, e, Nat.zero_le _, r⟩)⟩

/-- What stands in the short way. -/
theorem mem_endsOf {bs : List Bat} {e : Ev} : ∀ {k : Nat}, e ∈ endsOf bs k → ∃ p b, p < k ∧ bs[p]? = some b ∧ e ∈ endEv p b
  | 0, h => by cases h
  | k + 1, h => by
    rcases List.mem_append.1 h with h | h
    · obtain ⟨p, b, h1, h2⟩ := mem_endsOf h
      exact ⟨p, b, by omega, h2⟩
    · cases hb : bs[k]? with
      | none => rw [hb] at h; cases h
      | some b => rw [hb] at h; exact ⟨k, b, by omega, hb, h⟩
theorem Inv.tell {M : Ag} {t : Nat} (h : Inv M t) : ∀ e ∈ M.way, e.Tell := by
  have hc := Cfg.ok h.good.1
  have hat := hc.at'
  have hd := hc.d
  have h120 := h.b120
  have hfl : ∀ p b, M.bs[p]? = some b → p < 256 ∧ b.fl.toNat < 256 := fun p b hb => by
    have h1 := (List.getElem?_eq_some_iff.1 hb).1
    have h2 := (h.each b (List.mem_of_getElem? hb)).2.2.2.2.2.2
    omega
  intro e he
  unfold Ag.way at he
  rcases List.mem_append.1 he with he | he
  · rcases List.mem_append.1 he with he | he
    · obtain ⟨b, hb, rfl⟩ := List.mem_map.1 he
      obtain ⟨e1, e2, e3, e4, e5, e6, _⟩ := h.each b hb
      exact Or.inl ⟨rfl, rfl, rfl, e1, Int.lt_of_lt_of_le e2 hd.2, (h.sl _ e3).2, e5, e6⟩
    · obtain ⟨p, b, _, hb, he⟩ := mem_endsOf he
      obtain ⟨h1, h2⟩ := hfl p b hb
      unfold endEv at he
      split at he
      · rw [List.mem_singleton.1 he]; exact Or.inr ⟨show 0 < 1 by omega, show 1 < 4 by omega, h1, h2⟩
      · split at he
        · rw [List.mem_singleton.1 he]; exact Or.inr ⟨show 0 < 2 by omega, show 2 < 4 by omega, h1, h2⟩
        · cases he
  · obtain ⟨p, hp, rfl⟩ := List.mem_map.1 he
    obtain ⟨b, hb, _⟩ := (h.dead p).1 hp
    obtain ⟨h1, h2⟩ := hfl p b hb
    exact Or.inr ⟨show 0 < 3 by omega, show 3 < 4 by omega, h1, by simp only [diedEv, Ev.of, hb, Option.map_some, Option.getD_some]; exact h2⟩
theorem tell_len : ∀ (l : List Ev), (∀ e ∈ l, e.Tell) → (l.flatMap Ev.bytes).length ≤ 100 * l.length
  | [], _ => by simp
  | a :: l, h => by
    have h1 := (h a (by simp)).le
    have h2 := tell_len l (fun e he => h e (by simp [he]))
    simp only [List.flatMap_cons, List.length_append, List.length_cons]
    omega
theorem Inv.dead_lt {M : Ag} {t : Nat} (h : Inv M t) : ∀ p ∈ M.dead, p < M.bs.length := fun p hp => by
  obtain ⟨b, hb, _⟩ := (h.dead p).1 hp
  exact (List.getElem?_eq_some_iff.1 hb).1
theorem Inv.way_len {M : Ag} {t : Nat} (h : Inv M t) : M.way.length ≤ 360 := by
  have h1 := h.b120
  have h2 := h.dead_le
  have h3 := endsOf_le M.bs M.bs.length
  unfold Ag.way
  rw [List.length_append, List.length_append, List.length_map, List.length_map]
  omega
/-- The agent behind Compact. -/
def Ag.compacted (M : Ag) : Ag := { M with log := recB 61 M.way }
theorem Inv.compacted_len {M : Ag} {t : Nat} (h : Inv M t) : (recB 61 M.way).length ≤ 36003 := by
  have h1 := tell_len M.way h.tell
  have h2 := h.way_len
  unfold recB
  split
  · simp
  · rw [List.length_append]; show 3 + _ ≤ _; omega

set_option maxRecDepth 100000 in
set_option maxHeartbeats 1000000 in
theorem rewrite_any (L : Labs) (who g t : Nat) (M : Ag) (w : World) (hA : AgentAt w L who g M) (h : Inv M t) :
    Calls Tryz.prog 15 #[.pointer (some ⟨g, 0, none⟩)] w fun r w' => r = .returned (.tuple #[]) ∧ Turned w L who g M.compacted w' := by
  have HS := hide (shortWay_any L who g M w hA h.dead_lt h.b120 h.dead_le (fun b hb => (h.each b hb).2.2.2.2.2.2.1))
  have HW := hide (fun v w1 h1 => written_any 61 v M.way w1 h1 h.tell (by have h1 := tell_len M.way h.tell; have h2 := h.way_len; omega))
  have HA := hide hA
  have hgl : g < w.heap.size := World.block_lt_of_cell? w _ (agent_log hA)
  unfold Ways at HS
  clear hA h
  go_enter Tryz.func15, Tryz.ntmps15
  go_wp2_with fail
  refine HS.out.mono ?_
  rintro e w1 ⟨v, rfl, hr1, hb1⟩
  have HW1 := hide (HW.out v w1 (ownsRow_zero hr1))
  have HB1 := hide hb1
  clear hr1 hb1
  go_wp2_with fail
  refine HW1.out.mono ?_
  rintro e w2 ⟨rfl, hb2⟩
  have hB2 : Below w.heap.size w w2 := HB1.out.trans (hb2.mono HB1.out.size)
  have hA2 := HA.out.keep (Step.of_below (p := fun _ => False) (L := L) hB2) (fun _ h => h)
  have f3 : w2.frozen? ⟨g, 3, none⟩ = false := agent_frozen hA2 3
  have c3 := agent_log hA2
  have HA2 := hide hA2
  have HB2 := hide hB2
  generalize hrec : recB 61 M.way = rec at *
  have Hrec := hide hrec
  clear hb2 hB2 hA2 hrec
  go_wp2_with fail
  first | go_end0 | refine bodyPost_ret (results_none rfl _ _ _) rfl ?_
  obtain ⟨L3, hA3, hS3⟩ := logged_step HA2.out rec
  refine ⟨rfl, L3, ?_, (Step.of_below HB2.out).trans hS3⟩
  unfold Ag.compacted
  rw [Hrec.out]
  exact hA3

set_option maxHeartbeats 400000 in
theorem compact_any (L : Labs) (who g t : Nat) (M : Ag) (w : World) (hA : AgentAt w L who g M) (h : Inv M t) :
    Calls Tryz.prog 8 #[.pointer (some ⟨g, 0, none⟩)] w fun r w' => r = .returned (.tuple #[]) ∧ Turned w L who g M.compacted w' := by
  have H := hide (rewrite_any L who g t M w hA h)
  clear hA h
  go_enter Tryz.func8, Tryz.ntmps8
  go_wp2_with fail
  refine H.out.mono ?_
  rintro e w1 ⟨rfl, h1⟩
  have H1 := hide h1
  clear h1
  go_wp2_with fail
  first | go_end0 | refine bodyPost_ret (results_none rfl _ _ _) rfl ?_
  exact ⟨rfl, H1.out⟩
set_option maxHeartbeats 400000 in
theorem log_any (L : Labs) (who g : Nat) (M : Ag) (w : World) (hA : AgentAt w L who g M) :
    Calls Tryz.prog 6 #[.pointer (some ⟨g, 0, none⟩)] w fun r w' => r = .returned (encStr M.log) ∧ w' = w := by
  have c3 := agent_log hA
  generalize M.log = l at *
  clear hA
  go_enter Tryz.func6, Tryz.ntmps6
  go_wp2_with fail
  go_ret
  exact ⟨rfl, rfl⟩
theorem Inv.compacted {M : Ag} {t : Nat} (h : Inv M t) : Inv M.compacted (t + 200) := by
  have := (h.more (show t ≤ t + 200 by omega)).logged (recB 61 M.way) (by have := h.compacted_len; omega)
  exact this
end Go.Proofs.YtojpjaifhjigfabGreatDoor

/- An agent is what its log says: kept by every call. -/
namespace Go.Proofs.YtojpjaifhjigfabGreatDoor
open Go.RowKit Go.Maps

/-- What lasts of an agent. -/
def Ag.core (M : Ag) : Ag := { Ag.new M.c M.D M.ns with bs := M.bs, dead := M.dead }
structure LInv (M : Ag) : Prop where
  log : Leads (Ag.new M.c M.D M.ns) 0 M.log M.core
  quota : M.QuotaOk
theorem LInv.same {M M' : Ag} (h : LInv M) (e1 : M'.c = M.c) (e2 : M'.D = M.D) (e3 : M'.ns = M.ns) (e4 : M'.bs = M.bs) (e5 : M'.dead = M.dead) (e6 : M'.log = M.log) : LInv M' := by
  refine ⟨?_, ?_⟩
  · have := h.log
    unfold Ag.core at this ⊢
    rw [e1, e2, e3, e4, e5, e6]
    exact this
  · have := h.quota
    unfold Ag.QuotaOk at this ⊢
    rw [e1, e4]
    exact this
theorem linv_new (c : Cfg) (D : DataW Unit) (ns : List (List UInt8)) (hq : 0 ≤ c.q) : LInv (Ag.new c D ns) := by
  refine ⟨Leads.refl _ _, fun x _ => ?_⟩
  show ((waits [] x : Nat) : Int) ≤ c.q
  exact hq

theorem played_core (M : Ag) (e : Ev) : (M.played e).core = M.core.played e := by
  unfold Ag.played
  split <;> rfl
theorem plays_core : ∀ (es : List Ev) (M : Ag), (es.foldl Ag.played M).core = es.foldl Ag.played M.core
  | [], _ => rfl
  | e :: es, M => by rw [List.foldl_cons, List.foldl_cons, plays_core es, played_core]
theorem canBe_core (M : Ag) (e : Ev) : M.core.canBe e = M.canBe e := rfl
theorem chain_core : ∀ (es : List Ev) (M : Ag), Chain M es → Chain M.core es
  | [], _, _ => trivial
  | e :: es, M, h => ⟨h.1, by rw [← played_core]; exact chain_core es _ h.2⟩
theorem quota_core (M : Ag) : M.core.QuotaOk ↔ M.QuotaOk := Iff.rfl

theorem plays_same : ∀ (es : List Ev) (M : Ag), (es.foldl Ag.played M).c = M.c ∧ (es.foldl Ag.played M).D = M.D ∧ (es.foldl Ag.played M).ns = M.ns
  | [], _ => ⟨rfl, rfl, rfl⟩
  | e :: es, M => by
    obtain ⟨h1, h2, h3⟩ := plays_same es (M.played e)
    rw [List.foldl_cons, h1, h2, h3]
    unfold Ag.played
    split <;> exact ⟨rfl, rfl, rfl⟩
theorem mayStand_call (n : Nat) : mayStand (43 : UInt8).toNat n = true := by simp [mayStand]
theorem LInv.recorded {M : Ag} {es : List Ev} (h : LInv M) (ht : ∀ e ∈ es, e.Tell) (hl : (es.flatMap Ev.bytes).length < 65536) (hc : Chain M es) (hq : (es.foldl Ag.played M).QuotaOk) : LInv (M.recorded es) := by
  obtain ⟨s1, s2, s3⟩ := plays_same es M
  refine ⟨?_, hq⟩
  show Leads (Ag.new (es.foldl Ag.played M).c (es.foldl Ag.played M).D (es.foldl Ag.played M).ns) 0 (M.log ++ recB 43 es) (es.foldl Ag.played M).core
  rw [s1, s2, s3, plays_core]
  refine h.log.trans ?_
  by_cases hne : es = []
  · subst hne
    exact Leads.refl _ _
  · refine Leads.record hne ht hl (chain_core es M hc) (mayStand_call _) ?_
    rw [← plays_core]
    exact hq

/-- How many of a lane wait. -/
theorem pend_len (bs : List Bat) (d : Int) (t : List UInt8) : (pend bs d t).length = bs.countP (fun b => decide (b.dst = d) && decide (b.ten = t) && decide (b.st = 1)) := by
  unfold pend
  rw [List.length_map, ← List.countP_eq_length_filter]
  have : bs = bs.zipIdx.map (·.1) := by simp
  conv => rhs; rw [this]
  rw [List.countP_map]
  rfl
theorem countP_modify_le {α : Type} (p : α → Bool) (f : α → α) (hf : ∀ a, p (f a) = true → p a = true) : ∀ (l : List α) (i : Nat), (l.modify i f).countP p ≤ l.countP p
  | [], i => by cases i <;> simp
  | a :: l, 0 => by
    rw [List.modify_zero_cons, List.countP_cons, List.countP_cons]
    by_cases h : p (f a) = true
    · rw [if_pos h, if_pos (hf a h)]; exact Nat.le_refl _
    · rw [if_neg h]; omega
  | a :: l, i + 1 => by
    rw [List.modify_succ_cons, List.countP_cons, List.countP_cons]
    have := countP_modify_le p f hf l i
    omega
theorem waits_played (M : Ag) {e : Ev} (hk : e.kind ≠ 0) (x : List UInt8) : waits (M.played e).bs x ≤ waits M.bs x := by
  rw [played_not0 M hk]
  have key : ∀ d : Int, (pend (M.bs.modify e.pl (fun b => b.ended e.kind e.f)) d x).length ≤ (pend M.bs d x).length := fun d => by
    rw [pend_len, pend_len]
    refine countP_modify_le _ _ (fun b hb => ?_) _ _
    simp only [Bool.and_eq_true, decide_eq_true_eq] at hb ⊢
    refine ⟨hb.1, ?_⟩
    have h3 := hb.2
    unfold Bat.ended at h3
    simp only at h3
    split at h3
    · omega
    · split at h3
      · omega
      · exact h3
  have h0 := key 0
  have h1 := key 1
  have h2 := key 2
  have h3 := key 3
  show waits (M.bs.modify e.pl _) x ≤ _
  unfold waits
  omega
theorem quota_plays : ∀ (es : List Ev) (M : Ag), (∀ e ∈ es, e.kind ≠ 0) → M.QuotaOk → (es.foldl Ag.played M).QuotaOk
  | [], _, _, h => h
  | e :: es, M, hk, h => by
    rw [List.foldl_cons]
    refine quota_plays es _ (fun e' he => hk e' (by simp [he])) (fun x hx => ?_)
    have h1 := waits_played M (hk e (by simp)) x
    have h2 := h x hx
    have h3 : (M.played e).c = M.c := by unfold Ag.played; split <;> rfl
    rw [h3]
    omega
/-- Events about different batches can come one behind the other. -/
theorem chain_of : ∀ (es : List Ev) (M : Ag), (∀ e ∈ es, e.kind ≠ 0 ∧ M.canBe e = true) → (es.map Ev.pl).Nodup → Chain M es
  | [], _, _, _ => trivial
  | e :: es, M, h, hn => by
    simp only [List.map_cons, List.nodup_cons] at hn
    refine ⟨(h e (by simp)).2, chain_of es _ (fun e' he' => ?_) hn.2⟩
    obtain ⟨h1, h2⟩ := h e' (by simp [he'])
    refine ⟨h1, ?_⟩
    have hne : e.pl ≠ e'.pl := fun e'' => hn.1 (by rw [e'']; exact List.mem_map_of_mem he')
    rw [← h2, played_not0 M (h e (by simp)).1]
    unfold Ag.canBe
    rw [if_neg h1, if_neg h1]
    have hmod : (M.bs.modify e.pl (fun b => b.ended e.kind e.f))[e'.pl]? = M.bs[e'.pl]? := by
      rw [List.getElem?_modify]
      simp [hne]
    simp only [hmod]
/-- What settle says can come next. -/
theorem settled_can {M : Ag} {d : Nat} {o : Out} {p : Nat} {b : Bat} {r : Ret} {draw : Int} (h : SetOk M d o p b r draw) (good : Bool) (h120' : M.bs.length ≤ 120) (hst : b.st = 1) (hfl : b.fl < M.c.at') : (M.settled d good draw).2.kind ≠ 0 ∧ M.canBe (M.settled d good draw).2 = true ∧ (M.settled d good draw).2.Tell ∧ (M.settled d good draw).2.pl = p := by
  have hp : p < M.bs.length := (List.getElem?_eq_some_iff.1 h.hb).1
  rw [settled_eq h good]
  have h120 : p < 256 := by omega
  cases good
  · by_cases hd : M.c.at' ≤ b.fl + 1
    · simp only [Bool.false_eq_true, if_false, if_pos hd]
      refine ⟨by simp [Ev.of], ?_, Or.inr ⟨by simp [Ev.of], by simp [Ev.of], h120, by simp [Ev.of]⟩, rfl⟩
      unfold Ag.canBe
      simp only [Ev.of, h.hb]
      have : b.fl + 1 = M.c.at' := by omega
      simp [hst, this]
    · simp only [Bool.false_eq_true, if_false, if_neg hd]
      refine ⟨by simp [Ev.of], ?_, Or.inr ⟨by simp [Ev.of], by simp [Ev.of], h120, by simp [Ev.of]⟩, rfl⟩
      unfold Ag.canBe
      simp only [Ev.of, h.hb]
      have : b.fl + 1 < M.c.at' := by omega
      simp [hst, this]
  · simp only [if_true]
    refine ⟨by simp [Ev.of], ?_, Or.inr ⟨by simp [Ev.of], by simp [Ev.of], h120, by simp [Ev.of]⟩, rfl⟩
    unfold Ag.canBe
    simp only [Ev.of, h.hb]
    simp [hst, hfl]

theorem LInv.later {M : Ag} (h : LInv M) (ms : Int) : LInv (M.later ms) := h.same rfl rfl rfl rfl rfl rfl
theorem settled_same {M : Ag} {d : Nat} {o : Out} {p : Nat} {b : Bat} {r : Ret} {draw : Int} (h : SetOk M d o p b r draw) (good : Bool) : (M.settled d good draw).1.c = M.c ∧ (M.settled d good draw).1.D = M.D ∧ (M.settled d good draw).1.ns = M.ns ∧ (M.settled d good draw).1.bs = M.bs ∧ (M.settled d good draw).1.dead = M.dead ∧ (M.settled d good draw).1.log = M.log := by
  rw [settled_eq h good]
  cases good
  · by_cases hd : M.c.at' ≤ b.fl + 1
    · simp only [Bool.false_eq_true, if_false, if_pos hd]
      exact ⟨rfl, rfl, rfl, rfl, rfl, rfl⟩
    · simp only [Bool.false_eq_true, if_false, if_neg hd]
      exact ⟨rfl, rfl, rfl, rfl, rfl, rfl⟩
  · simp only [if_true]
    exact ⟨rfl, rfl, rfl, rfl, rfl, rfl⟩
theorem canBe_same {M M' : Ag} (e1 : M'.c = M.c) (e2 : M'.D = M.D) (e4 : M'.bs = M.bs) (e : Ev) : M'.canBe e = M.canBe e := by
  unfold Ag.canBe Ag.misfit destB
  rw [e1, e2, e4]
theorem LInv.replied {M : Ag} {t d : Nat} {o : Out} {draw : Int} (h : LInv M) (hi : Inv M t) (ht : t ≤ 10000000000000) (hd : 0 ≤ draw) (ho : M.os[d]? = some o) (hw : o.way ≠ -1) (good : Bool) : LInv (M.replied d good draw) := by
  obtain ⟨p, b, r, hs, hst, hdst, hfl⟩ := hi.setOk ht hd ho hw
  obtain ⟨k1, k2, k3, k4⟩ := settled_can hs good hi.b120 hst hfl
  obtain ⟨s1, s2, s3, s4, s5, s6⟩ := settled_same hs good
  have h1 : LInv (M.settled d good draw).1 := h.same s1 s2 s3 s4 s5 s6
  refine h1.recorded (fun e he => ?_) ?_ ⟨?_, trivial⟩ (quota_plays _ _ (fun e he => ?_) h1.quota)
  · rw [List.mem_singleton.1 he]; exact k3
  · have := k3.le
    simp
    omega
  · rw [canBe_same s1 s2 s4]; exact k2
  · rw [List.mem_singleton.1 he]; exact k1

/-- What gives up can come next. -/
theorem gaveUp_can {M : Ag} {draw : Int} (h : GiveOk M draw) (h120 : M.bs.length ≤ 120) : ∀ k, ∀ e ∈ (M.gaveUp draw k).2, e.kind ≠ 0 ∧ M.canBe e = true ∧ e.Tell
  | 0 => fun e he => by simp [Ag.gaveUp] at he
  | k + 1 => fun e he => by
    have ih := gaveUp_can h h120 k
    unfold Ag.gaveUp at he
    cases ho : M.os[k]? with
    | none => rw [ho] at he; exact ih e he
    | some o =>
      rw [ho] at he
      simp only at he
      by_cases hw : o.way ≠ -1 ∧ M.c.ti ≤ M.now - o.began
      · rw [if_pos hw] at he
        obtain ⟨p, b, r, hs, hst, hdst, hb, hfl⟩ := h.set (gaveUp_gave h k) ho hw.1
        have hg := gaveUp_gave h k
        rcases List.mem_append.1 he with h1 | h1
        · exact ih e h1
        · rw [List.mem_singleton.1 h1]
          obtain ⟨k1, k2, k3, _⟩ := settled_can hs false (by rw [hg.bs]; exact h120) hst (by rw [hg.c]; exact hfl)
          exact ⟨k1, by rw [← canBe_same hg.c hg.D hg.bs]; exact k2, k3⟩
      · rw [if_neg hw] at he
        exact ih e he
theorem LInv.timed {M : Ag} {t : Nat} {draw : Int} (h : LInv M) (hi : Inv M t) (ht : t ≤ 10000000000000) (hd : 0 ≤ draw) : LInv (M.timed draw) := by
  have hg := hi.giveOk ht hd
  have hv := gaveUp_gave hg M.os.length
  have hcan := gaveUp_can hg hi.b120 M.os.length
  obtain ⟨_, hnd, _⟩ := gaveUp_evs hg M.os.length
  have hlen := gaveUp_len (M := M) (draw := draw) M.os.length
  have h1 : LInv (M.gaveUp draw M.os.length).1 := h.same hv.c hv.D hv.ns hv.bs hv.dead hv.log
  refine h1.recorded (fun e he => (hcan e he).2.2) ?_ (chain_of _ _ (fun e he => ⟨(hcan e he).1, by rw [canBe_same hv.c hv.D hv.bs]; exact (hcan e he).2.1⟩) hnd) (quota_plays _ _ (fun e he => (hcan e he).1) h1.quota)
  have := tell_len _ (fun e he => (hcan e he).2.2)
  have := hg.o4
  omega
theorem sentOut_same (M : Ag) : ∀ k, (M.sentOut k).1.c = M.c ∧ (M.sentOut k).1.D = M.D ∧ (M.sentOut k).1.ns = M.ns ∧ (M.sentOut k).1.bs = M.bs ∧ (M.sentOut k).1.dead = M.dead ∧ (M.sentOut k).1.log = M.log
  | 0 => ⟨rfl, rfl, rfl, rfl, rfl, rfl⟩
  | k + 1 => by
    obtain ⟨h1, h2, h3, h4, h5, h6⟩ := sentOut_same M k
    have key : ∀ (N : Ag) (d : Nat), (N.sentTo d).1.c = N.c ∧ (N.sentTo d).1.D = N.D ∧ (N.sentTo d).1.ns = N.ns ∧ (N.sentTo d).1.bs = N.bs ∧ (N.sentTo d).1.dead = N.dead ∧ (N.sentTo d).1.log = N.log := fun N d => by
      unfold Ag.sentTo
      cases N.os[d]? with
      | none => exact ⟨rfl, rfl, rfl, rfl, rfl, rfl⟩
      | some o =>
        simp only
        split <;> exact ⟨rfl, rfl, rfl, rfl, rfl, rfl⟩
    obtain ⟨k1, k2, k3, k4, k5, k6⟩ := key (M.sentOut k).1 k
    show ((M.sentOut k).1.sentTo k).1.c = M.c ∧ _
    exact ⟨k1.trans h1, k2.trans h2, k3.trans h3, k4.trans h4, k5.trans h5, k6.trans h6⟩
theorem LInv.ticked {M : Ag} {t : Nat} {ms draw : Int} (h : LInv M) (hi : Inv M t) (ht : t + 1 ≤ 10000000000000) (h0 : 0 ≤ ms) (h1 : ms ≤ 60000) (hd : 0 ≤ draw) : LInv (M.ticked ms draw).1 := by
  have h2 : LInv ((M.later ms).timed draw) := (h.later ms).timed (hi.later h0 h1) ht hd
  obtain ⟨k1, k2, k3, k4, k5, k6⟩ := sentOut_same ((M.later ms).timed draw) ((M.later ms).timed draw).os.length
  exact h2.same k1 k2 k3 k4 k5 k6
end Go.Proofs.YtojpjaifhjigfabGreatDoor
