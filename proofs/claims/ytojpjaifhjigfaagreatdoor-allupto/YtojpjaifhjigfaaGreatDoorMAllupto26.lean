/- Steps of the proof (several texts in one): LogBack, ShortWay, Compact. -/
import Derived.Test.YtojpjaifhjigfaaGreatDoorMAllupto25
import Derived.Test.YtojpjaifhjigfaaGreatDoorMAllupto13
import Derived.Test.YtojpjaifhjigfaaGreatDoorMAllupto16

/- What was written is read back. -/
namespace Go.Proofs.YtojpjaifhjigfaaGreatDoor
open Go.RowKit Go.Maps

theorem ofNat_toNat {n : Nat} (h : n < 256) : (UInt8.ofNat n).toNat = n := by
  rw [UInt8.toNat_ofNat']
  omega
theorem piece_back (a more : List UInt8) (s : Bool) : Rd.piece ⟨a ++ more, s⟩ a.length = (a, ⟨more, s⟩) := by
  unfold Rd.piece
  rw [if_neg (by simp)]
  simp
theorem text_back (a more : List UInt8) (s : Bool) (h : a.length < 256) : Rd.text ⟨part a ++ more, s⟩ = (a, ⟨more, s⟩) := by
  have e : Rd.number ⟨part a ++ more, s⟩ = ((UInt8.ofNat a.length).toNat, ⟨a ++ more, s⟩) := rfl
  unfold Rd.text
  rw [e, ofNat_toNat h]
  exact piece_back a more s
/-- An event as it is read back. -/
def Ev.norm (e : Ev) : Ev := if e.kind = 0 then ⟨0, { e.b with st := 0, fl := 0 }, 0, 0⟩ else ⟨e.kind, noBat, e.pl, e.f⟩
theorem event_back {e : Ev} (he : e.Tell) (more : List UInt8) : Rd.event ⟨e.bytes ++ more, false⟩ = (e.norm, ⟨more, false⟩) := by
  rcases he with ⟨h0, _, _, h1, h2, h3, h4, h5⟩ | ⟨h0, h1, h2, h3⟩
  · have eb : e.bytes ++ more = 0 :: UInt8.ofNat e.b.dst.toNat :: (part e.b.ten ++ (part e.b.id ++ (part e.b.body ++ more))) := by
      unfold Ev.bytes
      rw [if_pos h0]
      simp [evBytes, evParts]
    rw [eb]
    have n1 : Rd.number ⟨0 :: UInt8.ofNat e.b.dst.toNat :: (part e.b.ten ++ (part e.b.id ++ (part e.b.body ++ more))), false⟩ = (0, ⟨UInt8.ofNat e.b.dst.toNat :: (part e.b.ten ++ (part e.b.id ++ (part e.b.body ++ more))), false⟩) := rfl
    have n2 : Rd.number ⟨UInt8.ofNat e.b.dst.toNat :: (part e.b.ten ++ (part e.b.id ++ (part e.b.body ++ more))), false⟩ = (e.b.dst.toNat, ⟨part e.b.ten ++ (part e.b.id ++ (part e.b.body ++ more)), false⟩) := by
      show ((UInt8.ofNat e.b.dst.toNat).toNat, _) = _
      rw [ofNat_toNat (by omega)]
    unfold Rd.event Ev.norm
    simp only [n1, n2, text_back _ _ _ (show e.b.ten.length < 256 by omega), text_back _ _ _ (show e.b.id.length < 256 by omega), text_back _ _ _ (show e.b.body.length < 256 by omega)]
    rw [if_neg (by simp), if_pos h0]
    have : ((e.b.dst.toNat : Nat) : Int) = e.b.dst := by omega
    rw [this]
  · have eb : e.bytes ++ more = UInt8.ofNat e.kind :: UInt8.ofNat e.pl :: UInt8.ofNat e.f :: more := by
      unfold Ev.bytes
      rw [if_neg (by omega)]
      rfl
    rw [eb]
    have n1 : Rd.number ⟨UInt8.ofNat e.kind :: UInt8.ofNat e.pl :: UInt8.ofNat e.f :: more, false⟩ = (e.kind, ⟨UInt8.ofNat e.pl :: UInt8.ofNat e.f :: more, false⟩) := by
      show ((UInt8.ofNat e.kind).toNat, _) = _
      rw [ofNat_toNat (by omega)]
    have n2 : Rd.number ⟨UInt8.ofNat e.pl :: UInt8.ofNat e.f :: more, false⟩ = (e.pl, ⟨UInt8.ofNat e.f :: more, false⟩) := by
      show ((UInt8.ofNat e.pl).toNat, _) = _
      rw [ofNat_toNat (by omega)]
    have n3 : Rd.number ⟨UInt8.ofNat e.f :: more, false⟩ = (e.f, ⟨more, false⟩) := by
      show ((UInt8.ofNat e.f).toNat, _) = _
      rw [ofNat_toNat (by omega)]
    unfold Rd.event Ev.norm
    simp only [n1, n2, n3]
    rw [if_pos (by omega), if_neg (by omega)]
theorem record_back {by' : UInt8} {es : List Ev} (hne : es ≠ []) (hl : (es.flatMap Ev.bytes).length < 65536) (more : List UInt8) : Rd.record ⟨recB by' es ++ more, false⟩ = (by'.toNat, es.flatMap Ev.bytes, ⟨more, false⟩) := by
  have eb : recB by' es ++ more = by' :: UInt8.ofNat ((es.flatMap Ev.bytes).length / 256) :: UInt8.ofNat ((es.flatMap Ev.bytes).length % 256) :: (es.flatMap Ev.bytes ++ more) := by
    unfold recB
    rw [if_neg hne]
    simp
  rw [eb]
  generalize es.flatMap Ev.bytes = t at *
  have n1 : Rd.number ⟨by' :: UInt8.ofNat (t.length / 256) :: UInt8.ofNat (t.length % 256) :: (t ++ more), false⟩ = (by'.toNat, ⟨UInt8.ofNat (t.length / 256) :: UInt8.ofNat (t.length % 256) :: (t ++ more), false⟩) := rfl
  have n2 : Rd.number ⟨UInt8.ofNat (t.length / 256) :: UInt8.ofNat (t.length % 256) :: (t ++ more), false⟩ = (t.length / 256, ⟨UInt8.ofNat (t.length % 256) :: (t ++ more), false⟩) := by
    show ((UInt8.ofNat (t.length / 256)).toNat, _) = _
    rw [ofNat_toNat (by omega)]
  have n3 : Rd.number ⟨UInt8.ofNat (t.length % 256) :: (t ++ more), false⟩ = (t.length % 256, ⟨t ++ more, false⟩) := by
    show ((UInt8.ofNat (t.length % 256)).toNat, _) = _
    rw [ofNat_toNat (by omega)]
  unfold Rd.record
  simp only [n1, n2, n3]
  rw [show t.length / 256 * 256 + t.length % 256 = t.length by omega, piece_back]

theorem canBe_norm (M : Ag) (e : Ev) : M.canBe e.norm = M.canBe e := by
  unfold Ev.norm
  by_cases h : e.kind = 0
  · rw [if_pos h]
    unfold Ag.canBe
    rw [if_pos rfl, if_pos h]
    rfl
  · rw [if_neg h]
    unfold Ag.canBe
    rw [if_neg h, if_neg h]
theorem played_norm (M : Ag) (e : Ev) : M.played e.norm = M.played e := by
  unfold Ev.norm
  by_cases h : e.kind = 0
  · rw [if_pos h]
    unfold Ag.played
    rw [if_pos rfl, if_pos h]
    rfl
  · rw [if_neg h]
    unfold Ag.played
    rw [if_neg h, if_neg h]
/-- Each event can come next. -/
def Chain : Ag → List Ev → Prop
  | _, [] => True
  | M, e :: es => M.canBe e = true ∧ Chain (M.played e) es
theorem redo_chain : ∀ (es : List Ev) (M : Ag), (∀ e ∈ es, e.Tell) → Chain M es → M.redo (es.flatMap Ev.bytes) = some (es.foldl Ag.played M)
  | [], M, _, _ => rfl
  | e :: es, M, ht, hc => by
    have he := ht e (by simp)
    have hpos := he.pos
    have hb := event_back he (es.flatMap Ev.bytes)
    have e1 : (e :: es).flatMap Ev.bytes = e.bytes ++ es.flatMap Ev.bytes := by simp
    rw [e1]
    cases hx : e.bytes ++ es.flatMap Ev.bytes with
    | nil =>
      have := congrArg List.length hx
      rw [List.length_append] at this
      simp at this
      have h2 := this.1
      rw [h2] at hpos
      simp at hpos
    | cons x l =>
      rw [redo_cons, ← hx, hb]
      simp only [canBe_norm, played_norm, hc.1, Bool.not_true, Bool.or_false, Bool.false_eq_true, if_false]
      exact redo_chain es (M.played e) (fun e he => ht e (by simp [he])) hc.2

/-- Whatever comes behind, these bytes lead from one agent to another. -/
def Leads (M : Ag) (n : Nat) (bs : List UInt8) (M' : Ag) : Prop := ∀ more res, Replays M n (bs ++ more) res → Replays M' (n + bs.length) more res
theorem Leads.refl (M : Ag) (n : Nat) : Leads M n [] M := fun _ _ h => h
theorem Leads.trans {M M1 M2 : Ag} {n : Nat} {b1 b2 : List UInt8} (h : Leads M n b1 M1) (k : Leads M1 (n + b1.length) b2 M2) : Leads M n (b1 ++ b2) M2 := fun more res hr => by
  rw [List.append_assoc] at hr
  have := k more res (h _ res hr)
  rw [List.length_append, ← Nat.add_assoc]
  exact this
theorem Leads.record {M : Ag} {n : Nat} {by' : UInt8} {es : List Ev} (hne : es ≠ []) (ht : ∀ e ∈ es, e.Tell) (hl : (es.flatMap Ev.bytes).length < 65536) (hc : Chain M es) (hm : mayStand by'.toNat n = true) (hq : (es.foldl Ag.played M).QuotaOk) : Leads M n (recB by' es) (es.foldl Ag.played M) := fun more res hr => by
  have hb := record_back (by' := by') hne hl more
  have hre := redo_chain es M ht hc
  have hbne : es.flatMap Ev.bytes ≠ [] := by
    cases es with
    | nil => exact absurd rfl hne
    | cons e es =>
      have := (ht e (by simp)).pos
      intro h
      have h2 := congrArg List.length h
      simp at h2
      rw [h2.1] at this
      simp at this
  have hlen : (recB by' es ++ more).length - more.length = (recB by' es).length := by rw [List.length_append]; omega
  have hne2 : recB by' es ++ more ≠ [] := by
    unfold recB
    rw [if_neg hne]
    simp
  generalize recB by' es ++ more = bx at *
  cases hr with
  | done => exact absurd rfl hne2
  | cut _ _ _ _ h1 _ => rw [hb] at h1; cases h1
  | stand _ _ _ _ _ h2 => rw [hb] at h2; rw [hm] at h2; cases h2
  | none _ _ _ _ _ _ h3 => rw [hb] at h3; rw [hre] at h3; cases h3
  | quota _ _ _ M' _ _ _ h3 h4 =>
    rw [hb] at h3 h4
    rw [hre] at h3
    cases h3
    exact absurd ⟨hbne, hq⟩ h4
  | step _ _ _ M' _ _ _ _ h3 _ h5 =>
    rw [hb] at h3 h5
    rw [hre] at h3
    cases h3
    simp only at h5
    rw [hlen] at h5
    exact h5
end Go.Proofs.YtojpjaifhjigfaaGreatDoor

/- shortWay: two events a batch at most. -/
namespace Go.Proofs.YtojpjaifhjigfaaGreatDoor
open Go.RowKit Go.Maps

theorem ownsRow_base {w : World} {base : Nat} {e : TypeId} {size : Nat} {v : Value} {n : Nat} {xs : List Value} (h : w.ownsRow base e size v n xs) : ∀ j, v.ownBlock = some j → base ≤ j := fun j hj => by
  rcases h.2 with ⟨rfl, _⟩ | ⟨g, cap, cur, rfl, hg, _⟩
  · simp [Value.ownBlock] at hj
  · have : g = j := by simpa [Value.ownBlock] using hj
    omega

/-- A batch was taken. -/
def tookEv (b : Bat) : Ev := ⟨0, b, 0, 0⟩
/-- What has become of it, if it is not dead. -/
def endEv (p : Nat) (b : Bat) : List Ev := if b.st = 2 then [Ev.of 1 p b.fl.toNat] else if b.st = 1 ∧ 0 < b.fl then [Ev.of 2 p b.fl.toNat] else []
def endsOf (bs : List Bat) : Nat → List Ev
  | 0 => []
  | k + 1 => endsOf bs k ++ match bs[k]? with | some b => endEv k b | none => []
def diedEv (bs : List Bat) (p : Nat) : Ev := Ev.of 3 p (((bs[p]?).map (·.fl.toNat)).getD 0)
/-- The short way to what an agent has. -/
def Ag.way (M : Ag) : List Ev := M.bs.map tookEv ++ endsOf M.bs M.bs.length ++ M.dead.map (diedEv M.bs)
theorem endsOf_le (bs : List Bat) : ∀ k, (endsOf bs k).length ≤ k
  | 0 => Nat.le_refl _
  | k + 1 => by
    have := endsOf_le bs k
    unfold endsOf
    rw [List.length_append]
    have h2 : (match bs[k]? with | some b => endEv k b | none => []).length ≤ 1 := by
      cases bs[k]? with
      | none => simp
      | some b => simp only [endEv]; split; exact Nat.le_refl _; split; exact Nat.le_refl _; simp
    omega
def Ways (w w' : World) (es : List Ev) (e : Ending) : Prop := ∃ v, e = .returned v ∧ w'.ownsRow w.heap.size 151 7 v es.length (es.flatMap Ev.cells) ∧ Below w.heap.size w w'
/-- Events in a row of the function's own. -/
def EvsAt (w wr : World) (v : Value) (es : List Ev) : Prop := wr.ownsRow w.heap.size 151 7 v es.length (es.flatMap Ev.cells) ∧ Below w.heap.size w wr
theorem EvsAt.more {w wr w2 w3 : World} {v : Value} {es : List Ev} {e : Ev} {n g3 cap3 : Nat} (h : EvsAt w wr v es) (hn : es.length = n) (hb : Below wr.heap.size wr w2) (ho : w3.ownsRow w.heap.size 151 7 (.slice (some ⟨g3, 0, none⟩) (n + 1) cap3) (n + 1) (es.flatMap Ev.cells ++ e.cells)) (hg : w2.grownBy w3 v.ownBlock) : EvsAt w w3 (.slice (some ⟨g3, 0, none⟩) (n + 1) cap3) (es ++ [e]) := by
  refine ⟨?_, ((h.2.trans (hb.mono h.2.size))).grown hg (Nat.le_trans h.2.size hb.size) (fun j hj => ownsRow_base h.1 j hj)⟩
  rw [List.length_append, List.flatMap_append, hn]
  simpa using ho
theorem two_below (w : World) (o o' : Obj) : Below w.heap.size w ((w.alloc o).alloc o') := ((Below.refl _ _).alloc (Nat.le_refl _) _).alloc (by simp) _

set_option maxRecDepth 100000 in
set_option maxHeartbeats 2000000 in
theorem shortWay_any (L : Labs) (who g : Nat) (M : Ag) (w : World) (h : AgentAt w L who g M) (hd : ∀ p ∈ M.dead, p < M.bs.length) (hb : M.bs.length ≤ 120) (hdl : M.dead.length ≤ 120) (hfl : ∀ b ∈ M.bs, 0 ≤ b.fl) :
    Calls Tryz.prog 118 #[.pointer (some ⟨g, 0, none⟩)] w fun e w' => Ways w w' M.way e := by
  obtain ⟨bq, bm, cn, tv, dv, nv, rv, ov, h⟩ := h
  obtain ⟨da, dc, rfl, _⟩ := h.dd.shape
  obtain ⟨ta, tc, rfl, _⟩ := h.tk.shape
  have c0 : w.cell? ⟨g, 0, none⟩ = some (.slice ta M.bs.length tc) := h.blk.1.cell 0
  have c2 : w.cell? ⟨g, 2, none⟩ = some (.slice da M.dead.length dc) := h.blk.1.cell 2
  have hgl := h.blk.1.lt
  obtain ⟨i0, hi, hz0, hz1, hz2⟩ := info_parts infoEvent3
  have HD := hide hd
  have HH := hide h
  have HF := hide hfl
  have HC2 := hide c2
  generalize hn : M.dead.length = n at *
  generalize hm : M.bs.length = m at *
  have Hn := hide hn
  have Hm := hide hm
  clear hd h hn hm hfl c2
  go_enter Tryz.func118, Tryz.ntmps118
  go_wp2_with fail
  go_loopw [3, 15] (fun v i wr => ∃ (k : Nat) (ea : Option Addr) (ek : Nat), k ≤ m ∧ i = .int .i64 k ∧ v = .slice ea k ek ∧ EvsAt w wr (.slice ea k ek) ((M.bs.take k).map tookEv)) (fun _ i _ => m - (intOf i).toNat)
  case atStart => exact ⟨0, none, 0, Nat.zero_le _, rfl, rfl, World.ownsRow_nil _ _ _ _, Below.refl _ _⟩
  case round =>
    obtain ⟨k, ea, ek, hk, rfl, rfl, hE⟩ := hrel
    have HE := hide hE
    clear hE
    by_cases hlt : k < m
    · have hltI : (k : Int) < (m : Int) := by omega
      obtain ⟨gt, rfl, hgt, _, hct, _⟩ := (show RowAt w L (some (who, .tk)) 155 6 (.slice ta m tc) m (M.bs.flatMap Bat.cells) by have := HH.out.tk; rw [Hm.out] at this; exact this).head (by omega)
      obtain ⟨b, hb'⟩ : ∃ b, M.bs[k]? = some b := ⟨_, List.getElem?_eq_getElem (by rw [Hm.out]; exact hlt)⟩
      have HR : Hid (wr.rangeAt gt (k * 6) b.cells) := fun j v hv => by
        rw [HE.out.2.cell (p := ⟨gt, _, none⟩) hgt]
        exact hct _ _ (flat_cell Bat.cells 6 Bat.cells_length hb' (by have := (List.getElem?_eq_some_iff.1 hv).1; rw [Bat.cells_length] at this; exact this) hv)
      have hlen : ((M.bs.take k).map tookEv).length = k := by rw [List.length_map, List.length_take, Hm.out]; omega
      have hE := HE.out.1
      rw [hlen] at hE
      have HEr := hide hE
      have Hlen := hide hlen
      have Hb := hide hb'
      clear hct hb' hlen hE
      go_wp2_with (first
        | (refine wpList_load_mid rfl 155 _ rfl gt (k * 6) rfl [.int .i64 b.dst, encStr b.ten, encStr b.id, encStr b.body, .int .i64 b.st, .int .i64 b.fl] _ HR.out Tryz.underlying155 rfl infoPBatch ?_)
        | (at_builtin; refine wpList_append_lies _ rfl _ _ 140 rfl w.heap.size 151 i0 (.agg #[.int .i64 0, .int .i64 0, .string ⟨#[]⟩, .string ⟨#[]⟩, .string ⟨#[]⟩, .int .i64 0, .int .i64 0]) 7 80 Tryz.underlying140 hi hz0 hz1 hz2 rfl (by decide) (.slice ea k ek) k _ rfl ((HEr.out.alloc _).alloc _) ⟨wr.heap.size + 1, 0, none⟩ 1 1 (tookEv b).cells rfl rfl (World.news_of_block (cs := (tookEv b).cells.toArray) (t := 151) (fr := (0, 0)) (obj_new (by simp) _)) (by simp [Value.oneCell', Ev.cells, encStr]) (by decide) (by unfold maxLen; omega) (by omega) (by simp; have := HE.out.2.size; omega) (wr.heap.size + 2) (by simp) ?_; intro g3 cap3 w3 hown3 hg3 hat3 hlt3; have Ho3 := hide hown3; have Hg3 := hide hg3; clear hown3 hg3 hat3)
        | fail)
      go_roundw
      case rel =>
        refine ⟨k + 1, some ⟨g3, 0, none⟩, cap3, by omega, by go_num, rfl, ?_⟩
        have h3 := HE.out.more Hlen.out (two_below wr _ _) Ho3.out Hg3.out
        rw [List.take_add_one, Hb.out, List.map_append]
        exact h3
      case measure => simp [intOf]; omega
    · have hkm : k = m := by omega
      subst hkm
      have HE2 : Hid (EvsAt w wr (.slice ea k ek) (M.bs.map tookEv ++ endsOf M.bs 0)) := by
        have := HE.out
        rw [List.take_of_length_le (by rw [Hm.out]; exact Nat.le_refl _)] at this
        exact (show EvsAt w wr (.slice ea k ek) (M.bs.map tookEv ++ endsOf M.bs 0) by simpa [endsOf] using this)
      have e0 : wr.cell? ⟨g, 0, none⟩ = some (.slice ta k tc) := (HE2.out.2.cell (p := ⟨g, 0, none⟩) hgl).trans c0
      have HC0 := hide c0
      clear HE c0 hlt hk
      go_wp2_with fail
      clear e0
      go_loopw [3, 31] (fun v i wr => ∃ (j : Nat) (ea : Option Addr) (c ek : Nat), j ≤ k ∧ i = .int .i64 j ∧ v = .slice ea c ek ∧ (M.bs.map tookEv ++ endsOf M.bs j).length = c ∧ EvsAt w wr (.slice ea c ek) (M.bs.map tookEv ++ endsOf M.bs j)) (fun _ i _ => k - (intOf i).toNat)
      case atStart => exact ⟨0, ea, k, ek, Nat.zero_le _, rfl, rfl, by simp [endsOf, Hm.out], HE2.out⟩
      case round =>
        clear HE2
        obtain ⟨j, ea, c, ek, hj, rfl, rfl, hc, hE⟩ := hrel
        have HE := hide hE
        have hc240 : c ≤ 240 := by
          rw [← hc, List.length_append, List.length_map, Hm.out]
          have := endsOf_le M.bs j
          omega
        have HEr : Hid (wr.ownsRow w.heap.size 151 7 (.slice ea c ek) c ((M.bs.map tookEv ++ endsOf M.bs j).flatMap Ev.cells)) := by have := hE.1; rw [hc] at this; exact this
        have Hc := hide hc
        clear hE hc
        by_cases hlt : j < k
        · have hltI : (j : Int) < (k : Int) := by omega
          obtain ⟨gt, rfl, hgt, _, hct, _⟩ := (show RowAt w L (some (who, .tk)) 155 6 (.slice ta k tc) k (M.bs.flatMap Bat.cells) by have := HH.out.tk; rw [Hm.out] at this; exact this).head (by omega)
          obtain ⟨b, hb'⟩ : ∃ b, M.bs[j]? = some b := ⟨_, List.getElem?_eq_getElem (by rw [Hm.out]; exact hlt)⟩
          have HR : Hid (wr.rangeAt gt (j * 6) b.cells) := fun i v hv => by
            rw [HE.out.2.cell (p := ⟨gt, _, none⟩) hgt]
            exact hct _ _ (flat_cell Bat.cells 6 Bat.cells_length hb' (by have := (List.getElem?_eq_some_iff.1 hv).1; rw [Bat.cells_length] at this; exact this) hv)
          have hf0 := HF.out b (List.mem_of_getElem? hb')
          have Hsucc : Hid (endsOf M.bs (j + 1) = endsOf M.bs j ++ endEv j b) := by show _ = _; simp only [endsOf, hb']
          obtain ⟨d0, t0, id0, bo0, st0, fl0⟩ := b
          obtain ⟨f, rfl⟩ : ∃ f : Nat, fl0 = f := ⟨fl0.toNat, by simp at hf0; omega⟩
          clear hct hb' hf0
          by_cases hst2 : st0 = 2
          · subst hst2
            have Hev : Hid (endsOf M.bs (j + 1) = endsOf M.bs j ++ [Ev.of 1 j f]) := by rw [Hsucc.out]; rfl
            clear Hsucc
            go_wp2_with (first
              | (refine wpList_load_mid rfl 155 _ rfl gt (j * 6) rfl [.int .i64 d0, encStr t0, encStr id0, encStr bo0, .int .i64 2, .int .i64 f] _ HR.out Tryz.underlying155 rfl infoPBatch ?_)
              | (at_builtin; refine wpList_append_lies _ rfl _ _ 140 rfl w.heap.size 151 i0 (.agg #[.int .i64 0, .int .i64 0, .string ⟨#[]⟩, .string ⟨#[]⟩, .string ⟨#[]⟩, .int .i64 0, .int .i64 0]) 7 80 Tryz.underlying140 hi hz0 hz1 hz2 rfl (by decide) (.slice ea c ek) c _ rfl ((HEr.out.alloc _).alloc _) ⟨wr.heap.size + 1, 0, none⟩ 1 1 (Ev.of 1 j f).cells rfl rfl (World.news_of_block (cs := (Ev.of 1 j f).cells.toArray) (t := 151) (fr := (0, 0)) (obj_new (by simp) _)) (by simp [Value.oneCell', Ev.cells, encStr, Ev.of, noBat]) (by decide) (by unfold maxLen; omega) (by omega) (by simp; have := HE.out.2.size; omega) (wr.heap.size + 2) (by simp) ?_; intro g3 cap3 w3 hown3 hg3 hat3 hlt3; have Ho3 := hide hown3; have Hg3 := hide hg3; clear hown3 hg3 hat3)
              | fail)
            go_roundw
            case rel =>
              refine ⟨j + 1, some ⟨g3, 0, none⟩, c + 1, cap3, by omega, by go_num, rfl, ?_, ?_⟩
              · rw [Hev.out, ← List.append_assoc, List.length_append, Hc.out]; rfl
              · rw [Hev.out, ← List.append_assoc]
                exact HE.out.more Hc.out (two_below wr _ _) Ho3.out Hg3.out
            case measure => simp [intOf]; omega
          · by_cases hst1 : st0 = 1
            · subst hst1
              by_cases hf : 0 < f
              · have hfI : (0 : Int) < (f : Int) := by omega
                have Hev : Hid (endsOf M.bs (j + 1) = endsOf M.bs j ++ [Ev.of 2 j f]) := by show _ = _; rw [Hsucc.out]; simp [endEv, hf]
                clear Hsucc
                go_wp2_with (first
                  | (refine wpList_load_mid rfl 155 _ rfl gt (j * 6) rfl [.int .i64 d0, encStr t0, encStr id0, encStr bo0, .int .i64 1, .int .i64 f] _ HR.out Tryz.underlying155 rfl infoPBatch ?_)
                  | (at_builtin; refine wpList_append_lies _ rfl _ _ 140 rfl w.heap.size 151 i0 (.agg #[.int .i64 0, .int .i64 0, .string ⟨#[]⟩, .string ⟨#[]⟩, .string ⟨#[]⟩, .int .i64 0, .int .i64 0]) 7 80 Tryz.underlying140 hi hz0 hz1 hz2 rfl (by decide) (.slice ea c ek) c _ rfl ((HEr.out.alloc _).alloc _) ⟨wr.heap.size + 1, 0, none⟩ 1 1 (Ev.of 2 j f).cells rfl rfl (World.news_of_block (cs := (Ev.of 2 j f).cells.toArray) (t := 151) (fr := (0, 0)) (obj_new (by simp) _)) (by simp [Value.oneCell', Ev.cells, encStr, Ev.of, noBat]) (by decide) (by unfold maxLen; omega) (by omega) (by simp; have := HE.out.2.size; omega) (wr.heap.size + 2) (by simp) ?_; intro g3 cap3 w3 hown3 hg3 hat3 hlt3; have Ho3 := hide hown3; have Hg3 := hide hg3; clear hown3 hg3 hat3)
                  | fail)
                go_roundw
                case rel =>
                  refine ⟨j + 1, some ⟨g3, 0, none⟩, c + 1, cap3, by omega, by go_num, rfl, ?_, ?_⟩
                  · rw [Hev.out, ← List.append_assoc, List.length_append, Hc.out]; rfl
                  · rw [Hev.out, ← List.append_assoc]
                    exact HE.out.more Hc.out (two_below wr _ _) Ho3.out Hg3.out
                case measure => simp [intOf]; omega
              · obtain rfl : f = 0 := by omega
                have Hev : Hid (endsOf M.bs (j + 1) = endsOf M.bs j) := by show _ = _; rw [Hsucc.out]; simp [endEv]
                clear Hsucc
                go_wp2_with (first
                  | (refine wpList_load_mid rfl 155 _ rfl gt (j * 6) rfl [.int .i64 d0, encStr t0, encStr id0, encStr bo0, .int .i64 1, .int .i64 0] _ HR.out Tryz.underlying155 rfl infoPBatch ?_)
                  | fail)
                go_roundw
                case rel =>
                  refine ⟨j + 1, ea, c, ek, by omega, by go_num, rfl, ?_, ?_⟩
                  · rw [Hev.out]; exact Hc.out
                  · rw [Hev.out]
                    exact ⟨HE.out.1.alloc _, HE.out.2.alloc HE.out.2.size _⟩
                case measure => simp [intOf]; omega
            · have Hev : Hid (endsOf M.bs (j + 1) = endsOf M.bs j) := by show _ = _; rw [Hsucc.out]; simp [endEv, hst1, hst2]
              clear Hsucc
              go_wp2_with (first
                | (refine wpList_load_mid rfl 155 _ rfl gt (j * 6) rfl [.int .i64 d0, encStr t0, encStr id0, encStr bo0, .int .i64 st0, .int .i64 f] _ HR.out Tryz.underlying155 rfl infoPBatch ?_)
                | fail)
              go_roundw
              case rel =>
                refine ⟨j + 1, ea, c, ek, by omega, by go_num, rfl, ?_, ?_⟩
                · rw [Hev.out]; exact Hc.out
                · rw [Hev.out]
                  exact ⟨HE.out.1.alloc _, HE.out.2.alloc HE.out.2.size _⟩
              case measure => simp [intOf]; omega
        · have hjk : j = k := by omega
          subst hjk
          have e2 : wr.cell? ⟨g, 2, none⟩ = some (.slice da n dc) := (HE.out.2.cell (p := ⟨g, 2, none⟩) hgl).trans HC2.out
          have HW : Hid (M.way = M.bs.map tookEv ++ endsOf M.bs j ++ M.dead.map (diedEv M.bs)) := by unfold Ag.way; rw [Hm.out]; rfl
          generalize hbase : M.bs.map tookEv ++ endsOf M.bs j = base at *
          clear hbase hlt hj
          go_wp2_with fail
          clear e2
          go_loopw [3, 74] (fun v i wr => ∃ (q : Nat) (ea : Option Addr) (c ek : Nat), q ≤ n ∧ i = .int .i64 q ∧ v = .slice ea c ek ∧ (base ++ (M.dead.take q).map (diedEv M.bs)).length = c ∧ EvsAt w wr (.slice ea c ek) (base ++ (M.dead.take q).map (diedEv M.bs))) (fun _ i _ => n - (intOf i).toNat)
          case atStart => exact ⟨0, ea, c, ek, Nat.zero_le _, rfl, rfl, by simpa using Hc.out, by simpa using HE.out⟩
          case round =>
            clear HE HEr
            obtain ⟨q, ea, c2, ek, hq, rfl, rfl, hc, hE⟩ := hrel
            have HE := hide hE
            have hc360 : c2 ≤ 360 := by
              have h1 := Hc.out
              rw [← hc, List.length_append, List.length_map, List.length_take]
              omega
            have HEr : Hid (wr.ownsRow w.heap.size 151 7 (.slice ea c2 ek) c2 ((base ++ (M.dead.take q).map (diedEv M.bs)).flatMap Ev.cells)) := by have := hE.1; rw [hc] at this; exact this
            have Hc2 := hide hc
            clear hE hc
            by_cases hlt : q < n
            · have hltI : (q : Int) < (n : Int) := by omega
              obtain ⟨gd, rfl, hgd, _, hcd, _⟩ := (show RowAt w L (some (who, .dd)) 3 1 (.slice da n dc) n (ints M.dead) by have := HH.out.dd; rw [Hn.out] at this; exact this).head (by omega)
              obtain ⟨p, hp⟩ : ∃ p, M.dead[q]? = some p := ⟨_, List.getElem?_eq_getElem (by rw [Hn.out]; exact hlt)⟩
              have hpm : p < j := by have := HD.out p (List.mem_of_getElem? hp); omega
              have hpI : (p : Int) < (j : Int) := by omega
              obtain ⟨gt, rfl, hgt, _, hct, _⟩ := (show RowAt w L (some (who, .tk)) 155 6 (.slice ta j tc) j (M.bs.flatMap Bat.cells) by have := HH.out.tk; rw [Hm.out] at this; exact this).head (by omega)
              obtain ⟨b, hb'⟩ : ∃ b, M.bs[p]? = some b := ⟨_, List.getElem?_eq_getElem (by rw [Hm.out]; exact hpm)⟩
              have hf0 := HF.out b (List.mem_of_getElem? hb')
              obtain ⟨f, hf⟩ : ∃ f : Nat, b.fl = f := ⟨b.fl.toNat, by omega⟩
              have e0 : wr.cell? ⟨g, 0, none⟩ = some (.slice (some ⟨gt, 0, none⟩) j tc) := (HE.out.2.cell (p := ⟨g, 0, none⟩) hgl).trans HC0.out
              have e1 : wr.cell? ⟨gd, q, none⟩ = some (.int .i64 p) := by rw [HE.out.2.cell (p := ⟨gd, q, none⟩) hgd]; exact hcd q _ (ints_get hp)
              have e2 : wr.cell? ⟨gt, p * 6 + 5, none⟩ = some (.int .i64 f) := by rw [HE.out.2.cell (p := ⟨gt, _, none⟩) hgt, ← hf]; exact hct _ _ (flat_cell Bat.cells 6 Bat.cells_length hb' (by omega) rfl)
              have Hsucc : Hid ((M.dead.take (q + 1)).map (diedEv M.bs) = (M.dead.take q).map (diedEv M.bs) ++ [Ev.of 3 p f]) := by
                show _ = _
                rw [List.take_add_one, hp, List.map_append]
                simp [diedEv, hb', hf]
              clear hcd hct hp hb' hf hf0
              go_wp2_with (first
                | (at_builtin; refine wpList_append_lies _ rfl _ _ 140 rfl w.heap.size 151 i0 (.agg #[.int .i64 0, .int .i64 0, .string ⟨#[]⟩, .string ⟨#[]⟩, .string ⟨#[]⟩, .int .i64 0, .int .i64 0]) 7 80 Tryz.underlying140 hi hz0 hz1 hz2 rfl (by decide) (.slice ea c2 ek) c2 _ rfl (HEr.out.alloc _) ⟨wr.heap.size, 0, none⟩ 1 1 (Ev.of 3 p f).cells rfl rfl (World.news_of_block (cs := (Ev.of 3 p f).cells.toArray) (t := 151) (fr := (0, 0)) (obj_new (by simp) _)) (by simp [Value.oneCell', Ev.cells, encStr, Ev.of, noBat]) (by decide) (by unfold maxLen; omega) (by omega) (by simp; have := HE.out.2.size; omega) (wr.heap.size + 1) (by simp) ?_; intro g3 cap3 w3 hown3 hg3 hat3 hlt3; have Ho3 := hide hown3; have Hg3 := hide hg3; clear hown3 hg3 hat3)
                | fail)
              go_roundw
              case rel =>
                refine ⟨q + 1, some ⟨g3, 0, none⟩, c2 + 1, cap3, by omega, by go_num, rfl, ?_, ?_⟩
                · rw [Hsucc.out, ← List.append_assoc, List.length_append, Hc2.out]; rfl
                · rw [Hsucc.out, ← List.append_assoc]
                  exact HE.out.more Hc2.out ((Below.refl _ _).alloc (Nat.le_refl _) _) Ho3.out Hg3.out
              case measure => simp [intOf]; omega
            · have hqn : q = n := by omega
              subst hqn
              go_wp2_with fail
              go_ret
              have h1 := HE.out
              rw [List.take_of_length_le (by rw [Hn.out]; exact Nat.le_refl _), ← HW.out] at h1
              exact ⟨_, rfl, h1⟩
end Go.Proofs.YtojpjaifhjigfaaGreatDoor

/- Compact and Log. -/
namespace Go.Proofs.YtojpjaifhjigfaaGreatDoor
open Go.RowKit Go.Maps

theorem ownsRow_zero {w : World} {base : Nat} {e : TypeId} {size : Nat} {v : Value} {n : Nat} {xs : List Value} (h : w.ownsRow base e size v n xs) : w.ownsRow 0 e size v n xs :=
  ⟨h.1, h.2.imp id (fun ⟨g, cap, cur, e, _, r⟩ => ⟨g, cap, cur, e, Nat.zero_le _, r⟩)⟩

/-- What stands in the short way. -/
theorem mem_endsOf {bs : List Bat} {e : Ev} : ∀ {k : Nat}, e ∈ endsOf bs k → ∃ p b, p < k ∧ bs[p]? = some b ∧ e ∈ endEv p b
  | 0, h => by cases h
  | k + 1, h => by
    rcases List.mem_append.1 h with h | h
    · obtain ⟨p, b, h1, h2⟩ := mem_endsOf h
      exact ⟨p, b, by omega, h2⟩
    · cases hb : bs[k]? with
      | none => rw [hb] at h; cases h
      | some b => rw [hb] at h; exact ⟨k, b, by omega, hb, h⟩
theorem Inv.tell {M : Ag} {t : Nat} (h : Inv M t) : ∀ e ∈ M.way, e.Tell := by
  have hc := Cfg.ok h.good.1
  have hat := hc.at'
  have hd := hc.d
  have h120 := h.b120
  have hfl : ∀ p b, M.bs[p]? = some b → p < 256 ∧ b.fl.toNat < 256 := fun p b hb => by
    have h1 := (List.getElem?_eq_some_iff.1 hb).1
    have h2 := (h.each b (List.mem_of_getElem? hb)).2.2.2.2.2.2
    omega
  intro e he
  unfold Ag.way at he
  rcases List.mem_append.1 he with he | he
  · rcases List.mem_append.1 he with he | he
    · obtain ⟨b, hb, rfl⟩ := List.mem_map.1 he
      obtain ⟨e1, e2, e3, e4, e5, e6, _⟩ := h.each b hb
      exact Or.inl ⟨rfl, rfl, rfl, e1, Int.lt_of_lt_of_le e2 hd.2, (h.sl _ e3).2, e5, e6⟩
    · obtain ⟨p, b, _, hb, he⟩ := mem_endsOf he
      obtain ⟨h1, h2⟩ := hfl p b hb
      unfold endEv at he
      split at he
      · rw [List.mem_singleton.1 he]; exact Or.inr ⟨show 0 < 1 by omega, show 1 < 4 by omega, h1, h2⟩
      · split at he
        · rw [List.mem_singleton.1 he]; exact Or.inr ⟨show 0 < 2 by omega, show 2 < 4 by omega, h1, h2⟩
        · cases he
  · obtain ⟨p, hp, rfl⟩ := List.mem_map.1 he
    obtain ⟨b, hb, _⟩ := (h.dead p).1 hp
    obtain ⟨h1, h2⟩ := hfl p b hb
    exact Or.inr ⟨show 0 < 3 by omega, show 3 < 4 by omega, h1, by simp only [diedEv, Ev.of, hb, Option.map_some, Option.getD_some]; exact h2⟩
theorem tell_len : ∀ (l : List Ev), (∀ e ∈ l, e.Tell) → (l.flatMap Ev.bytes).length ≤ 100 * l.length
  | [], _ => by simp
  | a :: l, h => by
    have h1 := (h a (by simp)).le
    have h2 := tell_len l (fun e he => h e (by simp [he]))
    simp only [List.flatMap_cons, List.length_append, List.length_cons]
    omega
theorem Inv.way_len {M : Ag} {t : Nat} (h : Inv M t) : M.way.length ≤ 360 := by
  have h1 := h.b120
  have h2 := h.dead_le
  have h3 := endsOf_le M.bs M.bs.length
  unfold Ag.way
  rw [List.length_append, List.length_append, List.length_map, List.length_map]
  omega
/-- The agent behind Compact. -/
def Ag.compacted (M : Ag) : Ag := { M with log := recB 61 M.way }
theorem Inv.compacted_len {M : Ag} {t : Nat} (h : Inv M t) : (recB 61 M.way).length ≤ 36003 := by
  have h1 := tell_len M.way h.tell
  have h2 := h.way_len
  unfold recB
  split
  · simp
  · rw [List.length_append]; show 3 + _ ≤ _; omega

set_option maxRecDepth 100000 in
set_option maxHeartbeats 1000000 in
theorem rewrite_any (L : Labs) (who g t : Nat) (M : Ag) (w : World) (hA : AgentAt w L who g M) (h : Inv M t) :
    Calls Tryz.prog 74 #[.pointer (some ⟨g, 0, none⟩)] w fun r w' => r = .returned (.tuple #[]) ∧ Turned w L who g M.compacted w' := by
  have HS := hide (shortWay_any L who g M w hA h.dead_lt h.b120 h.dead_le (fun b hb => (h.each b hb).2.2.2.2.2.2.1))
  have HW := hide (fun v w1 h1 => written_any 61 v M.way w1 h1 h.tell (by have h1 := tell_len M.way h.tell; have h2 := h.way_len; omega))
  have HA := hide hA
  have hgl : g < w.heap.size := World.block_lt_of_cell? w _ (agent_log hA)
  unfold Ways at HS
  clear hA h
  go_enter Tryz.func74, Tryz.ntmps74
  go_wp2_with fail
  refine HS.out.mono ?_
  rintro e w1 ⟨v, rfl, hr1, hb1⟩
  have HW1 := hide (HW.out v w1 (ownsRow_zero hr1))
  have HB1 := hide hb1
  clear hr1 hb1
  go_wp2_with fail
  refine HW1.out.mono ?_
  rintro e w2 ⟨rfl, hb2⟩
  have hB2 : Below w.heap.size w w2 := HB1.out.trans (hb2.mono HB1.out.size)
  have hA2 := HA.out.keep (Step.of_below (p := fun _ => False) (L := L) hB2) (fun _ h => h)
  have f3 : w2.frozen? ⟨g, 3, none⟩ = false := agent_frozen hA2 3
  have c3 := agent_log hA2
  have HA2 := hide hA2
  have HB2 := hide hB2
  generalize hrec : recB 61 M.way = rec at *
  have Hrec := hide hrec
  clear hb2 hB2 hA2 hrec
  go_wp2_with fail
  first | go_end0 | refine bodyPost_ret (results_none rfl _ _ _) rfl ?_
  obtain ⟨L3, hA3, hS3⟩ := logged_step HA2.out rec
  refine ⟨rfl, L3, ?_, (Step.of_below HB2.out).trans hS3⟩
  unfold Ag.compacted
  rw [Hrec.out]
  exact hA3

set_option maxHeartbeats 400000 in
theorem compact_any (L : Labs) (who g t : Nat) (M : Ag) (w : World) (hA : AgentAt w L who g M) (h : Inv M t) :
    Calls Tryz.prog 32 #[.pointer (some ⟨g, 0, none⟩)] w fun r w' => r = .returned (.tuple #[]) ∧ Turned w L who g M.compacted w' := by
  have H := hide (rewrite_any L who g t M w hA h)
  clear hA h
  go_enter Tryz.func32, Tryz.ntmps32
  go_wp2_with fail
  refine H.out.mono ?_
  rintro e w1 ⟨rfl, h1⟩
  have H1 := hide h1
  clear h1
  go_wp2_with fail
  first | go_end0 | refine bodyPost_ret (results_none rfl _ _ _) rfl ?_
  exact ⟨rfl, H1.out⟩
set_option maxHeartbeats 400000 in
theorem log_any (L : Labs) (who g : Nat) (M : Ag) (w : World) (hA : AgentAt w L who g M) :
    Calls Tryz.prog 33 #[.pointer (some ⟨g, 0, none⟩)] w fun r w' => r = .returned (encStr M.log) ∧ w' = w := by
  have c3 := agent_log hA
  generalize M.log = l at *
  clear hA
  go_enter Tryz.func33, Tryz.ntmps33
  go_wp2_with fail
  go_ret
  exact ⟨rfl, rfl⟩
theorem Inv.compacted {M : Ag} {t : Nat} (h : Inv M t) : Inv M.compacted (t + 200) := by
  have := (h.more (show t ≤ t + 200 by omega)).logged (recB 61 M.way) (by have := h.compacted_len; omega)
  exact this
end Go.Proofs.YtojpjaifhjigfaaGreatDoor
