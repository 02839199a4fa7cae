/- Steps of the proof (several texts in one): Config, Example, RefOpen, Ref, RefAsk, LawCounts. -/
import Derived.Test.YtojpjaifhjigfaaGreatDoorMTakenupto04
import Derived.Deep.RegionHeld3
import Derived.Laws.ResultCell
import Derived.Deep.RegionLaw
import Derived.Deep.AppendLies
import Derived.Laws.AppendOwnNone
import Derived.Deep.OwnRows
import Derived.Test.YtojpjaifhjigfaaGreatDoorMTakenupto02

/- conduitlaw.config and example: a configuration with its tenants. -/
namespace Go.Proofs.YtojpjaifhjigfaaGreatDoor
open Go.RowKit Go.Maps
attribute [local go_sem] run_store_float

theorem infoConfig : (Tryz.prog.info? 25).map (·.size) = some 11 := by kernel_rfl

theorem splice_all (cs : Array Value) (vs : Array Value) (h : cs.size = vs.size) : splice cs 0 vs.toList = vs := by
  have key : ∀ (l : List Value) (cs : Array Value) (o : Nat), cs.size = o + l.length → (splice cs o l).toList = cs.toList.take o ++ l := by
    intro l
    induction l with
    | nil => intro cs o h; simp only [splice, List.append_nil]; rw [List.take_of_length_le]; simp at h; simp [h]
    | cons v r ih =>
      intro cs o h
      simp only [splice]
      simp at h
      rw [ih _ _ (by simp; omega)]
      simp only [Array.toList_setIfInBounds]
      rw [List.take_succ_eq_append_getElem (by simp; omega), List.take_set_of_le (by omega)]
      simp
  have := key vs.toList cs 0 (by simpa using h)
  apply Array.toList_inj.1
  simpa using this
theorem cfgOne (c : Cfg) (m : Option Nat) : (c.cells m).all (·.oneCell') = true := by simp [Value.oneCell']

/-- A list of tenants lies behind this slice. -/
def TenAt (w : World) (a : Option Addr) (ts : List (List UInt8 × Int)) : Prop := ts = [] ∨ ∃ b off, a = some ⟨b, off, none⟩ ∧ b < w.heap.size ∧
  ∀ k (h : k < ts.length), w.cell? ⟨b, off + k * 2, none⟩ = some (encStr (ts[k]'h).1) ∧ w.cell? ⟨b, off + k * 2 + 1, none⟩ = some (.int .i64 (ts[k]'h).2)
def TenOk (ts : List (List UInt8 × Int)) : Prop := (∀ p ∈ ts, p.1.length ≤ maxLen ∧ (Lit.int .i64 p.2).wf = true) ∧ ts.length ≤ big
/-- What the map of a list of tenants reads as. -/
def DT (ts : List (List UInt8 × Int)) : DataW Unit := ts.foldl (fun D p => D.put (.string p.1) (.lit (.int .i64 p.2))) (.map [])
theorem DT_snoc (ts : List (List UInt8 × Int)) (p : List UInt8 × Int) : DT (ts ++ [p]) = (DT ts).put (.string p.1) (.lit (.int .i64 p.2)) := by simp [DT, List.foldl_append]

/-- The map value of a list of tenants (nil, if there is none). -/
abbrev mapV (ts : List (List UInt8 × Int)) (b : Nat) : Option Nat := if ts = [] then none else some b

theorem om_new {V : World} {n : Nat} (h : V.heap.size = n) : OM (V.alloc (.map #[] 0)) n 0 (.map []) := h ▸ World.ownsMap_made (H := Unit) V Tryz.prog 9 (plainElem Tryz.prog 3)

set_option maxRecDepth 100000 in
set_option maxHeartbeats 400000 in
theorem config_nil (c : Cfg) (m : Option Nat) (a : Option Addr) (cap : Nat) (w : World) : Calls Tryz.prog 15 #[c.val m, .slice a 0 cap] w fun e w' => e = .returned (c.val none) ∧ Below w.heap.size w w' := by
  go_enter Tryz.func15, Tryz.ntmps15
  go_wp2
  refine wp_loop_rounds 1 ?_
  rw [rounds_succ]
  go_wp2
  exact bodyPost_ret (v := c.val none) (by simp [results, Tryz.results15, go_sem]) rfl ⟨rfl, ((Below.refl _ _).alloc (Nat.le_refl _) _).alloc (by simp) _⟩

set_option maxRecDepth 100000 in
set_option maxHeartbeats 400000 in
theorem config_some (c : Cfg) (m : Option Nat) (b off cap : Nat) (ts : List (List UInt8 × Int)) (w : World) (h0 : 0 < ts.length) (hb : b < w.heap.size) (hok : TenOk ts)
    (hc : ∀ k (h : k < ts.length), w.cell? ⟨b, off + k * 2, none⟩ = some (encStr (ts[k]'h).1) ∧ w.cell? ⟨b, off + k * 2 + 1, none⟩ = some (.int .i64 (ts[k]'h).2)) :
    Calls Tryz.prog 15 #[c.val m, .slice (some ⟨b, off, none⟩) ts.length cap] w fun e w' => ∃ b', e = .returned (c.val (some b')) ∧ w.heap.size ≤ b' ∧ OM w' b' ts.length (DT ts) ∧ Below w.heap.size w w' := by
  have hmm := @run_makeMap Tryz.prog
  have HC := hide hc
  have HO := hide hok
  have hbig : (ts.length : Int) ≤ 8796093022208 := by have := hok.2; unfold big at this; omega
  have h0I : (0 : Int) < (ts.length : Int) := by omega
  clear hc hok
  go_enter Tryz.func15, Tryz.ntmps15
  go_wp2_with fail
  generalize hW : World.alloc (World.alloc (World.alloc w _) _) (Obj.map #[] 0) = W
  have hbW : Below w.heap.size w W := by rw [← hW]; exact (((Below.refl _ _).alloc (Nat.le_refl _) _).alloc (by simp) _).alloc (by simp; omega) _
  have hm0 : OM W (w.heap.size + 1 + 1) 0 (.map []) := by rw [← hW]; exact om_new (by simp)
  have hk0 : Blk W w.heap.size (c.cells (some (w.heap.size + 1 + 1))) 25 := by rw [← hW]; exact ((Blk.new w _ _).alloc _).alloc _
  have hk1 : ∃ cs, Blk W (w.heap.size + 1) cs 25 ∧ cs.size = 11 := by rw [← hW]; exact ⟨_, (Blk.made (by simp) _ _).alloc _, rfl⟩
  have Hk0 := hide hk0
  have Hk1 := hide hk1
  have Hm0 := hide hm0
  have HbW := hide hbW
  clear hW hbW hm0 hk0 hk1
  go_loopw [5] (fun i wr => ∃ k : Nat, k ≤ ts.length ∧ i = .int .i64 k ∧ OM wr (w.heap.size + 1 + 1) k (DT (ts.take k)) ∧ Blk wr w.heap.size (c.cells (some (w.heap.size + 1 + 1))) 25 ∧
      (∃ cs, Blk wr (w.heap.size + 1) cs 25 ∧ cs.size = 11) ∧ Below w.heap.size w wr) (fun i _ => ts.length - (intOf i).toNat)
  case atStart => exact ⟨0, Nat.zero_le _, rfl, Hm0.out, Hk0.out, Hk1.out, HbW.out⟩
  case round =>
    obtain ⟨k, hk, rfl, hm, hb0, hb1, hnx⟩ := hrel
    have Hb0 := hide hb0
    have Hb1 := hide hb1
    have Hnx := hide hnx
    by_cases hlt : k < ts.length
    · have hltI : (k : Int) < (ts.length : Int) := by omega
      obtain ⟨c1, c2⟩ := HC.out k hlt
      have e1 : wr.cell? ⟨b, off + k * 2, none⟩ = some (encStr (ts[k]'hlt).1) := by rw [hnx.cell (p := ⟨b, _, none⟩) hb]; exact c1
      have e2 : wr.cell? ⟨b, off + k * 2 + 1, none⟩ = some (.int .i64 (ts[k]'hlt).2) := by rw [hnx.cell (p := ⟨b, _, none⟩) hb]; exact c2
      have e3 : wr.cell? ⟨w.heap.size, 1, none⟩ = some (.map (some (w.heap.size + 1 + 1))) := hb0.cell 1
      obtain ⟨o1, o2⟩ := HO.out.1 (ts[k]'hlt) (List.getElem_mem hlt)
      obtain ⟨w2, hrun, hm2, hg2⟩ := (hm.drew).update lawS Tryz.underlying22 (by unfold maxLen; omega) (keyOfStr o1) (plainElem_int Tryz.underlying3 o2)
      have hwl : w.heap.size ≤ wr.heap.size := hnx.size
      have f1 : w2.cell? ⟨b, off + k * 2, none⟩ = some (encStr (ts[k]'hlt).1) := by rw [World.cell?_of_block (w := wr.drew) (a := ⟨b, _, none⟩) (hg2.block b (Nat.lt_of_lt_of_le hb hwl) (by simp; omega))]; exact e1
      have f2 : w2.cell? ⟨b, off + k * 2 + 1, none⟩ = some (.int .i64 (ts[k]'hlt).2) := by rw [World.cell?_of_block (w := wr.drew) (a := ⟨b, _, none⟩) (hg2.block b (Nat.lt_of_lt_of_le hb hwl) (by simp; omega))]; exact e2
      have f3 : w2.cell? ⟨w.heap.size, 1, none⟩ = some (.map (some (w.heap.size + 1 + 1))) := by rw [World.cell?_of_block (w := wr.drew) (a := ⟨w.heap.size, _, none⟩) (hg2.block _ hb0.lt (by simp; omega))]; exact e3
      have Hm2 := hide hm2
      have Hg2 := hide hg2
      clear c1 c2 hm hb0 hb1 hnx hm2 hg2
      go_wp2_with fail
      go_region_held3 (fun w' => w'.cell? ⟨b, off + k * 2, none⟩ = some (encStr (ts[k]'hlt).1) ∧ w'.cell? ⟨b, off + k * 2 + 1, none⟩ = some (.int .i64 (ts[k]'hlt).2) ∧ w'.cell? ⟨w.heap.size, 1, none⟩ = some (.map (some (w.heap.size + 1 + 1)))) (go_keep)
        (fail)
      go_wp2_with fail
      go_roundw
      case rel =>
        refine ⟨k + 1, by omega, by go_num, ?_, Hb0.out.grown (w := wr.drew) Hg2.out (by simp; omega), ?_, ?_⟩
        · rw [List.take_succ_eq_append_getElem hlt, DT_snoc]; exact Hm2.out
        · obtain ⟨cs, h1, h2⟩ := Hb1.out
          exact ⟨cs, Blk.grown (w := wr.drew) h1 Hg2.out (by simp), h2⟩
        · exact (Hnx.out.drew).grown Hg2.out Hnx.out.size (fun j hj => by cases hj; omega)
      case measure => simp [intOf]; omega
    · have Hk : Hid (ts.take k = ts) := List.take_of_length_le (by omega)
      have Hm := hide hm
      obtain ⟨cs, hcs, hcz⟩ := Hb1.out
      clear hm hb1 hnx
      go_wp2_with (first
        | (refine wpList_load_mid rfl 25 _ rfl w.heap.size 0 rfl (c.cells (some (w.heap.size + 1 + 1))).toList _ (Hb0.out.range 0 _ rfl) Tryz.underlying25 rfl infoConfig ?_)
        | (refine wpList_store_mid rfl 25 _ _ rfl (w.heap.size + 1) 0 (c.cells (some (w.heap.size + 1 + 1))) rfl rfl (hcs.there 0 11 (by omega)) infoConfig (cfgOne c _) ?_)
        | fail)
      have hsp : splice cs 0 (c.cells (some (w.heap.size + 1 + 1))).toList = c.cells (some (w.heap.size + 1 + 1)) := splice_all cs _ (by simpa using hcz)
      have hfin : Blk (wr.setCells (w.heap.size + 1) 0 (c.cells (some (w.heap.size + 1 + 1))).toList) (w.heap.size + 1) (c.cells (some (w.heap.size + 1 + 1))) 25 := by
        have h := Blk.setCells (c.cells (some (w.heap.size + 1 + 1))).toList 0 hcs
        rw [hsp] at h
        exact h
      refine bodyPost_ret (v := c.val (some (w.heap.size + 1 + 1))) (results_cell1 Tryz.results15 rfl (run_loadVar_mid _ _ 0 25 (c.cells (some (w.heap.size + 1 + 1))).toList _ (hfin.range 0 _ rfl) Tryz.underlying25 rfl infoConfig)) rfl ⟨_, rfl, by omega, ?_, below_setCells (by omega) _ 0 Hnx.out⟩
      have h2 := Hm.out
      rw [Hk.out] at h2
      obtain ⟨es, clock, k1, k2⟩ := h2.mono (by omega : k ≤ ts.length)
      exact ⟨es, clock, by rw [heap_setCells _ 0 (by omega)]; exact k1, k2⟩

theorem config_any (c : Cfg) (m : Option Nat) (a : Option Addr) (cap : Nat) (ts : List (List UInt8 × Int)) (w : World) (hok : TenOk ts) (h : TenAt w a ts) :
    Calls Tryz.prog 15 #[c.val m, .slice a ts.length cap] w fun e w' => ∃ m', e = .returned (c.val m') ∧ MapAt w' m' (DT ts) ∧ (∀ b, m' = some b → w.heap.size ≤ b) ∧ Below w.heap.size w w' := by
  rcases h with rfl | ⟨b, off, rfl, hb, hc⟩
  · refine (config_nil c m a cap w).mono ?_
    rintro e w' ⟨rfl, hb⟩
    exact ⟨none, rfl, Or.inl ⟨rfl, rfl⟩, fun b h => (by cases h), hb⟩
  · by_cases h0 : 0 < ts.length
    · refine (config_some c m b off cap ts w h0 hb hok hc).mono ?_
      rintro e w' ⟨b', rfl, h1, h2, h3⟩
      exact ⟨some b', rfl, Or.inr ⟨b', _, rfl, h2, hok.2⟩, fun b h => (by cases h; exact h1), h3⟩
    · have e : ts = [] := List.eq_nil_of_length_eq_zero (by omega)
      subst e
      refine (config_nil c m _ cap w).mono ?_
      rintro e w' ⟨rfl, hb⟩
      exact ⟨none, rfl, Or.inl ⟨rfl, rfl⟩, fun b h => (by cases h), hb⟩
end Go.Proofs.YtojpjaifhjigfaaGreatDoor

/- conduitlaw.example and pick: DOC.md's configuration. -/
namespace Go.Proofs.YtojpjaifhjigfaaGreatDoor
open Go.RowKit Go.Maps
attribute [local go_sem] run_store_float

def exCfg : Cfg := { d := 1, q := 9, at' := 2, ba := 10, ca := 100, ti := 50, wi := 4, le := 2, th := 4604930618986332160, op := 200 }
def exTs : List (List UInt8 × Int) := [([97], 64), ([98], 64)]

theorem ex_ok : TenOk exTs := ⟨fun p hp => by
  simp only [exTs, List.mem_cons, List.not_mem_nil, or_false] at hp
  rcases hp with rfl | rfl <;> exact ⟨by simp [maxLen], by decide⟩, by simp [exTs, big]⟩

set_option maxRecDepth 100000 in
set_option maxHeartbeats 400000 in
theorem example_any (w : World) : Calls Tryz.prog 14 #[] w fun e w' => ∃ g, e = .returned (.tuple #[exCfg.val none, .slice (some ⟨g, 0, none⟩) 2 2]) ∧ TenAt w' (some ⟨g, 0, none⟩) exTs ∧ Below w.heap.size w w' := by
  go_enter Tryz.func14, Tryz.ntmps14
  go_wp2
  generalize hV : World.alloc w _ = V
  have hz : V.heap.size = w.heap.size + 1 := by rw [← hV]; simp
  have hk : Blk V w.heap.size (exCfg.cells none) 25 := by rw [← hV]; exact Blk.new w _ _
  have hbV : Below w.heap.size w V := by rw [← hV]; exact (Below.refl _ _).alloc (Nat.le_refl _) _
  clear hV
  refine bodyPost_ret (v := .tuple #[exCfg.val none, .slice (some ⟨w.heap.size + 1, 0, none⟩) 2 2]) ?_ rfl ⟨_, rfl, Or.inr ⟨_, 0, rfl, by simp; omega, ?_⟩, hbV.alloc (by omega) _⟩
  · rw [results_cell_tmp Tryz.results14]
    have hl := run_loadVar_mid (P := Tryz.prog) (V.alloc (Obj.cells #[Value.string { data := #[97] }, Value.int IntKind.i64 64, Value.string { data := #[98] }, Value.int IntKind.i64 64] 94)) w.heap.size 0 25 (exCfg.cells none).toList _ ((hk.alloc _).range 0 _ rfl) Tryz.underlying25 rfl infoConfig
    simp [asAddr, hl]
  · have hn := Blk.made hz #[Value.string { data := #[97] }, Value.int IntKind.i64 64, Value.string { data := #[98] }, Value.int IntKind.i64 64] 94
    intro k h
    have hk2 : k < 2 := h
    rw [hn.cell, hn.cell]
    match k, hk2 with
    | 0, _ => exact ⟨rfl, rfl⟩
    | 1, _ => exact ⟨rfl, rfl⟩

theorem ex_at (x : List UInt8) (c : Int) (h : At (DT exTs) x c) : okKV x c = true := by
  have h0 := h .nil
  have e : DT exTs = .map [(.string [97], .lit (.int .i64 64)), (.string [98], .lit (.int .i64 64))] := by kernel_rfl
  rw [e] at h0
  by_cases h1 : [97] = x
  · subst h1
    have : c = 64 := by simpa [DataW.atKey, Lit.sameKey] using h0.symm
    subst this; decide
  · by_cases h2 : [98] = x
    · subst h2
      have : c = 64 := by simpa [DataW.atKey, Lit.sameKey] using h0.symm
      subst this; decide
    · simp [DataW.atKey, Lit.sameKey, h1, h2] at h0

theorem ex_good : GoodC exCfg (DT exTs) := ⟨by decide, ⟨by decide, ex_at⟩, by kernel_rfl⟩

set_option maxHeartbeats 400000 in
theorem pick_0 (w : World) : Calls Tryz.prog 40 #[.int .i64 0, .int .i64 2] w fun e w' => e = .returned (.int .i64 0) ∧ w' = w := by
  go_enter Tryz.func40, Tryz.ntmps40
  go_wp2
  go_ret
  exact ⟨rfl, rfl⟩
set_option maxHeartbeats 400000 in
theorem pick_1 (w : World) : Calls Tryz.prog 40 #[.int .i64 1, .int .i64 2] w fun e w' => e = .returned (.int .i64 1) ∧ w' = w := by
  go_enter Tryz.func40, Tryz.ntmps40
  go_wp2
  go_ret
  exact ⟨rfl, rfl⟩
end Go.Proofs.YtojpjaifhjigfaaGreatDoor

/- conduitref.Open of no batches: the document's agent, in new memory. -/
namespace Go.Proofs.YtojpjaifhjigfaaGreatDoor
open Go.RowKit Go.Maps
attribute [local go_sem] run_store_float

theorem infoInt : (Tryz.prog.info? 3).map (fun i => (i.zero, i.size, i.bytes)) = some (some (.int .i64 0), 1, 8) := by kernel_rfl
theorem infoLine : (Tryz.prog.info? 159).map (fun i => (i.zero, i.size, i.bytes)) = some (some (.agg #[.int .i64 0, .int .i64 0, .bool false, .int .i64 0, .int .i64 0, .slice none 0 0, .int .i64 0, .int .i64 0, .int .i64 0]), 9, 88) := by kernel_rfl

theorem Texts.below {w w' : World} {B : Nat} {v : Value} {ss : List (List UInt8)} (h : Texts w B v ss) {C : Nat} (hb : Below C w w') (hC : w.heap.size ≤ C) : Texts w' B v ss := by
  refine ⟨h.1, ?_⟩
  rcases h.2 with h1 | ⟨g, cap, cur, h1, h2, h3, h4⟩
  · exact Or.inl h1
  · exact Or.inr ⟨g, cap, cur, h1, h2, by rw [hb.block g (Nat.lt_of_lt_of_le (Array.getElem?_eq_some_iff.1 h3).1 hC)]; exact h3, h4⟩

/-- The cells of the document's agent. -/
abbrev refCells (c : Cfg) (m : Option Nat) (nv qv bv dv lv : Value) (t : Int) : Array Value :=
  #[.int .i64 c.d, .map m, .int .i64 c.q, .int .i64 c.at', .int .i64 c.ba, .int .i64 c.ca, .int .i64 c.ti, .int .i64 c.wi, .int .i64 c.le, .float .f64 c.th, .int .i64 c.op, nv, qv, bv, dv, lv, .int .i64 t]

/-- What the document's Open leaves: a new agent without batches. -/
def RefMade (c : Cfg) (m : Option Nat) (D : DataW Unit) (w : World) (e : Ending) (w' : World) : Prop := ∃ g nv ss qv la lk, e = .returned (.pointer (some ⟨g, 0, none⟩)) ∧ w.heap.size ≤ g ∧
  Blk w' g (refCells c m nv qv (.slice none 0 0) (.slice none 0 0) (.slice la c.d.toNat lk) 0) 109 ∧ Texts w' w.heap.size nv ss ∧ ss.Perm (strKeys D) ∧ Below w.heap.size w w'

set_option maxRecDepth 100000 in
set_option maxHeartbeats 4000000 in
theorem refOpen_any (c : Cfg) (m : Option Nat) (D : DataW Unit) (w : World) (h : MapAt w m D) (hd0 : 1 ≤ c.d) (hd1 : c.d ≤ 4) :
    Calls Tryz.prog 43 #[c.val m, .slice none 0 0, .slice none 0 0] w fun e w' => RefMade c m D w e w' := by
  have H := hide h
  have e0 := (Blk.new w (c.cells m) 25).cell
  have hB0 : Hid (Below w.heap.size w (w.alloc (.cells (c.cells m) 25))) := (Below.refl _ _).alloc (Nat.le_refl _) _
  clear h e0
  go_enter Tryz.func43, Tryz.ntmps43
  go_wp2_with fail
  generalize hV : World.alloc w _ = V
  have hK : Blk V w.heap.size (c.cells m) 25 := by rw [← hV]; exact Blk.new w _ _
  have hz : V.heap.size = w.heap.size + 1 := by rw [← hV]; simp
  have HV : Hid (MapAt V m D) := by rw [← hV]; exact H.out.alloc _
  rw [hV] at hB0
  obtain ⟨e0, e1, e2, e3, e4, e5, e6, e7, e8, e9, e10⟩ : V.cell? ⟨w.heap.size, 0, none⟩ = some (.int .i64 c.d) ∧ V.cell? ⟨w.heap.size, 1, none⟩ = some (.map (m)) ∧ V.cell? ⟨w.heap.size, 2, none⟩ = some (.int .i64 c.q) ∧ V.cell? ⟨w.heap.size, 3, none⟩ = some (.int .i64 c.at') ∧ V.cell? ⟨w.heap.size, 4, none⟩ = some (.int .i64 c.ba) ∧ V.cell? ⟨w.heap.size, 5, none⟩ = some (.int .i64 c.ca) ∧ V.cell? ⟨w.heap.size, 6, none⟩ = some (.int .i64 c.ti) ∧ V.cell? ⟨w.heap.size, 7, none⟩ = some (.int .i64 c.wi) ∧ V.cell? ⟨w.heap.size, 8, none⟩ = some (.int .i64 c.le) ∧ V.cell? ⟨w.heap.size, 9, none⟩ = some (.float .f64 c.th) ∧ V.cell? ⟨w.heap.size, 10, none⟩ = some (.int .i64 c.op) := ⟨hK.cell 0, hK.cell 1, hK.cell 2, hK.cell 3, hK.cell 4, hK.cell 5, hK.cell 6, hK.cell 7, hK.cell 8, hK.cell 9, hK.cell 10⟩
  have HK := hide hK
  have hlt : w.heap.size < V.heap.size := by omega
  clear hV hK
  go_region_held3 (fun w' => w'.cell? ⟨w.heap.size, 0, none⟩ = some (.int .i64 c.d) ∧ w'.cell? ⟨w.heap.size, 1, none⟩ = some (.map (m)) ∧ w'.cell? ⟨w.heap.size, 2, none⟩ = some (.int .i64 c.q) ∧ w'.cell? ⟨w.heap.size, 3, none⟩ = some (.int .i64 c.at') ∧ w'.cell? ⟨w.heap.size, 4, none⟩ = some (.int .i64 c.ba) ∧ w'.cell? ⟨w.heap.size, 5, none⟩ = some (.int .i64 c.ca) ∧ w'.cell? ⟨w.heap.size, 6, none⟩ = some (.int .i64 c.ti) ∧ w'.cell? ⟨w.heap.size, 7, none⟩ = some (.int .i64 c.wi) ∧ w'.cell? ⟨w.heap.size, 8, none⟩ = some (.int .i64 c.le) ∧ w'.cell? ⟨w.heap.size, 9, none⟩ = some (.float .f64 c.th) ∧ w'.cell? ⟨w.heap.size, 10, none⟩ = some (.int .i64 c.op)) (go_keep)
    (first
      | (go_at_call 78; refine (refNames_any m D _ (HV.out.below (below_drewN (Below.refl V.heap.size V) 1) (Nat.le_refl _))).mono ?_; rintro e w1 ⟨nv, ss, rfl, hT, hP, hb1⟩; obtain ⟨na, nk, rfl⟩ := hT.shape; have hc1 := fun o => hb1.cell (p := ⟨w.heap.size, o, none⟩) hlt; have Hb1 := hide hb1; have HT := hide hT; have HP := hide hP; have hz1 : V.heap.size ≤ w1.heap.size := hb1.size; clear hb1 hT hP))
  go_wp2_with fail
  generalize hW : World.alloc w1 _ = W
  have hA : Blk W w1.heap.size (refCells c m (.slice na ss.length nk) (.slice none 0 0) (.slice none 0 0) (.slice none 0 0) (.slice none 0 0) 0) 109 := by rw [← hW]; exact Blk.new w1 _ _
  have hbW : Below w1.heap.size w1 W := by rw [← hW]; exact (Below.refl _ _).alloc (Nat.le_refl _) _
  have hb1 : Below w.heap.size w w1 := (below_drewN hB0.out 1).trans (Hb1.out.mono (show w.heap.size ≤ V.heap.size by omega))
  have HK1 : Hid (Blk w1 w.heap.size (c.cells m) 25) := (HK.out.drewN 1).below Hb1.out hlt
  have HM1 : Hid (MapAt w1 m D) := HV.out.below (w' := w1) ((below_drewN (Below.refl V.heap.size V) 1).trans Hb1.out) (Nat.le_refl _)
  have HA := hide hA
  have HbW := hide hbW
  have HB1 := hide hb1
  have hGs : w.heap.size < w1.heap.size := by omega
  have hbig : (ss.length : Int) ≤ 8796093022208 := by
    rcases H.out with ⟨_, rfl⟩ | ⟨b, n, _, h2, h3⟩
    · have := HP.out.length_eq; rw [show (strKeys (.map [] : DataW Unit)).length = 0 from rfl] at this; omega
    · have := HP.out.length_eq; rw [size_strKeys h2] at this; have := h2.size_le; unfold big at h3; omega
  have HT1 : Hid (Texts w1 w.heap.size (.slice na ss.length nk) ss) := HT.out.mono_base (by show w.heap.size ≤ V.heap.size; omega)
  clear hW hA hbW hb1 hc1 e0 e1 e2 e3 e4 e5 e6 e7 e8 e9 e10
  generalize hG : w1.heap.size = G at *
  have HGe := hide hG
  clear hG
  go_loopw [8] (fun i wr => ∃ (k : Nat) (qa : Option Addr) (qk : Nat) (qs : List Value), k ≤ ss.length ∧ i = .int .i64 k ∧ wr.ownsRow (G + 1) 3 1 (.slice qa k qk) k qs ∧
      Blk wr G (refCells c m (.slice na ss.length nk) (.slice qa k qk) (.slice none 0 0) (.slice none 0 0) (.slice none 0 0) 0) 109 ∧ Below G w1 wr) (fun i _ => ss.length - (intOf i).toNat)
  case atStart => exact ⟨0, none, 0, [], Nat.zero_le _, rfl, ⟨rfl, Or.inl ⟨rfl, rfl⟩⟩, HA.out, HbW.out⟩
  case round =>
    obtain ⟨k, qa, qk, qs, hk, rfl, hq, hag, hnx⟩ := hrel
    have Hq := hide hq
    have Hag := hide hag
    have Hnx := hide hnx
    have hGw : G < wr.heap.size := hag.lt
    have a11 : wr.cell? ⟨G, 11, none⟩ = some (.slice na ss.length nk) := hag.cell 11
    by_cases hlt2 : k < ss.length
    · have hltI : (k : Int) < (ss.length : Int) := by omega
      obtain ⟨g0, rfl, hR, hg0⟩ := HT1.out.head (by omega)
      have hg0G : g0 < G := by obtain ⟨cur, hc, _⟩ := hR; have := hc.lt; have := HGe.out; omega
      have hck : wr.cell? ⟨g0, k, none⟩ = some (encStr (ss[k]'hlt2)) := by rw [hnx.cell (p := ⟨g0, k, none⟩) hg0G]; exact hR.cell k hlt2
      have hc1 : wr.cell? ⟨w.heap.size, 1, none⟩ = some (.map m) := by rw [hnx.cell (p := ⟨w.heap.size, 1, none⟩) hGs]; exact HK1.out.cell 1
      have a12 : wr.cell? ⟨G, 12, none⟩ = some (.slice qa k qk) := hag.cell 12
      have f12 : wr.frozen? ⟨G, 12, none⟩ = false := hag.frozen 12
      obtain ⟨b, n, rfl, hown⟩ : ∃ b n, m = some b ∧ OM w1 b n D := by
        rcases HM1.out with ⟨_, rfl⟩ | ⟨b, n, h1, h2, _⟩
        · have := HP.out.length_eq; rw [show (strKeys (.map [] : DataW Unit)).length = 0 from rfl] at this; omega
        · exact ⟨b, n, h1, h2⟩
      have hin : ss[k] ∈ strKeys D := HP.out.mem_iff.1 (List.getElem_mem hlt2)
      obtain ⟨q, hAt, hlook⟩ := look_at hown ((mem_strKeys hown _).1 hin)
      have hbG : b < G := by have := hown.lt; have := HGe.out; omega
      have hlk := hlook wr.drew n (om_below hown Hnx.out hbG).drew
      have hlk2 := fun o => hlook (wr.drew.alloc o) n ((om_below hown Hnx.out hbG).drew.alloc o)
      obtain ⟨i0, hi, hz0, hz1, hz2⟩ := info_parts infoInt
      clear hR hown hin hlook hAt hnx hag
      generalize hx : ss[k]'hlt2 = x at *
      clear hx
      go_wp2_with fail
      go_region_law (refine step_append_lies _ (by rfl) _ _ _ (by rfl) (G + 1) 3 i0 _ 1 8 Tryz.underlying51 hi hz0 hz1 hz2 rfl (by omega) (.slice qa k qk) k qs (by rfl) ((hq.alloc _).drew) ⟨wr.heap.size, 0, none⟩ 1 1 [.int .i64 q] (by rfl) (by rfl) (World.news_of_block (cs := #[.int .i64 q]) (t := 3) (fr := (0, 0)) (heap_alloc_new wr _)) (by simp [Value.oneCell']) (by omega) (by unfold maxLen; omega) (by omega) (by simp; omega) (wr.heap.size + 1) (by simp) ?_; intro gg cap w2 hown2 hgrow hat hlt3; have hBk := Blk.grown (w := World.drew (World.alloc wr _)) (Hag.out.alloc _) hgrow (fun e => absurd (hq.lt G e.symm).1 (by omega)); have c12 := hBk.cell 12; have f12' := hBk.frozen 12; simp at c12; have HBk := hide hBk; clear hBk)
      all_goals
        have hB2 : Below G w1 w2 := ((Hnx.out.alloc (by omega) _).drew).grown hgrow (by simp; omega) (fun j hj => by have := (hq.lt j hj).1; omega)
        have Hown2 := hide hown2
        have HB2 := hide hB2
        clear hown2 hB2 hgrow hat hq c12 f12' hlk hlk2 hck hc1 a12 f12 a11
        go_wp2_with fail
        go_roundw
        case rel => exact ⟨k + 1, _, _, _, by omega, by go_num, ownsRow_setCell_below Hown2.out (by simp) _, HBk.out.set 12 _, HB2.out.setCell (by simp) _⟩
        case measure => simp [intOf]; omega
    · clear hq hag hnx
      have a14 : wr.cell? ⟨G, 14, none⟩ = some (.slice none 0 0) := Hag.out.cell 14
      have f14 : wr.frozen? ⟨G, 14, none⟩ = false := Hag.out.frozen 14
      obtain ⟨i0, hi, hz0, hz1, hz2⟩ := info_parts infoInt
      have hrow : wr.ownsRow 0 3 1 (.slice none 0 0) 0 [] := ⟨rfl, Or.inl ⟨rfl, rfl⟩⟩
      go_wp2_with fail
      refine wp_loop_rounds 1 ?_
      rw [rounds_succ]
      go_wp2_with (first
        | (at_builtin; refine wpList_append_own_none rfl _ _ 51 rfl 0 3 i0 1 Tryz.underlying51 hi _ 0 [] rfl hrow rfl ?_)
        | fail)
      have hA3 : Blk (wr.setCell ⟨G, 14, none⟩ (.slice none 0 0)) G (refCells c m (.slice na ss.length nk) (.slice qa k qk) (.slice none 0 0) (.slice none 0 0) (.slice none 0 0) 0) 109 := Hag.out.set 14 _
      have hB3 : Below G w1 (wr.setCell ⟨G, 14, none⟩ (.slice none 0 0)) := Hnx.out.setCell (by simp) _
      have HA3 := hide hA3
      have HB3 := hide hB3
      clear hA3 hB3 a14 f14 hrow a11
      generalize hW3 : wr.setCell ⟨G, 14, none⟩ (.slice none 0 0) = W3 at *
      clear hW3
      obtain ⟨d, hd⟩ : ∃ d : Nat, c.d = d := ⟨c.d.toNat, by omega⟩
      have hd4 : d ≤ 4 := by omega
      have HD := hide hd
      clear hd
      go_loopw [11] (fun i wq => ∃ (j : Nat) (la : Option Addr) (lk : Nat) (ls : List Value), j ≤ d ∧ i = .int .i64 j ∧ wq.ownsRow (G + 1) 159 9 (.slice la j lk) j ls ∧
          Blk wq G (refCells c m (.slice na ss.length nk) (.slice qa k qk) (.slice none 0 0) (.slice none 0 0) (.slice la j lk) 0) 109 ∧ Below G w1 wq) (fun i _ => d - (intOf i).toNat)
      case atStart => exact ⟨0, none, 0, [], Nat.zero_le _, rfl, ⟨rfl, Or.inl ⟨rfl, rfl⟩⟩, HA3.out, HB3.out⟩
      case round =>
        obtain ⟨j, la, lk, ls, hj, rfl, hq, hag, hnx⟩ := hrel
        have Hag4 := hide hag
        have Hnx4 := hide hnx
        have hGw4 : G < wr.heap.size := hag.lt
        have hc0 : wr.cell? ⟨w.heap.size, 0, none⟩ = some (.int .i64 c.d) := by rw [hnx.cell (p := ⟨w.heap.size, 0, none⟩) hGs]; exact HK1.out.cell 0
        by_cases hjd : j < d
        · have hjI : (j : Int) < (d : Int) := by omega
          have hjc : (j : Int) < c.d := by rw [HD.out]; omega
          have b11 : wr.cell? ⟨G, 11, none⟩ = some (.slice na ss.length nk) := hag.cell 11
          have b15 : wr.cell? ⟨G, 15, none⟩ = some (.slice la j lk) := hag.cell 15
          have g15 : wr.frozen? ⟨G, 15, none⟩ = false := hag.frozen 15
          have hmk := fun w => run_make_row' (P := Tryz.prog) 51 3 (.int .i64 0) 8 Tryz.underlying51 infoInt rfl .i64 .i64 ss.length (by omega) (by omega) w
          obtain ⟨i1, hi1, hy0, hy1, hy2⟩ := info_parts infoLine
          clear hag hnx
          go_wp2_with fail
          go_region_law (refine step_append_lies _ (by rfl) _ _ _ (by rfl) (G + 1) 159 i1 _ 9 88 Tryz.underlying107 hi1 hy0 hy1 hy2 rfl (by omega) (.slice la j lk) j ls (by rfl) (((hq.alloc _).alloc _).drew) ⟨wr.heap.size + 1, 0, none⟩ 1 1 [.int .i64 0, .int .i64 0, .bool false, .int .i64 0, .int .i64 0, .slice (some ⟨wr.heap.size, 0, none⟩) ss.length ss.length, .int .i64 0, .int .i64 (-1), .int .i64 0] (by rfl) (by rfl) (World.news_of_block (cs := #[.int .i64 0, .int .i64 0, .bool false, .int .i64 0, .int .i64 0, .slice (some ⟨wr.heap.size, 0, none⟩) ss.length ss.length, .int .i64 0, .int .i64 (-1), .int .i64 0]) (t := 159) (fr := (0, 0)) (Blk.made (by simp) _ _)) (by simp [Value.oneCell']) (by omega) (by unfold maxLen; omega) (by omega) (by simp; omega) (wr.heap.size + 1 + 1) (by simp) ?_; intro gg cap w2 hown2 hgrow hat hlt3; have hBk := Blk.grown (w := World.drew (World.alloc (World.alloc wr _) _)) ((Hag4.out.alloc _).alloc _) hgrow (fun e => absurd (hq.lt G e.symm).1 (by omega)); have c15 := hBk.cell 15; have g15' := hBk.frozen 15; simp at c15; have HBk := hide hBk; clear hBk)
          all_goals
            have hB2 : Below G w1 w2 := (((Hnx4.out.alloc (by omega) _).alloc (by simp; omega) _).drew).grown hgrow (by simp; omega) (fun j hj => by have := (hq.lt j hj).1; omega)
            have Hown2 := hide hown2
            have HB2 := hide hB2
            clear hown2 hB2 hgrow hat hq c15 g15' b11 b15 g15 hmk
            go_wp2_with fail
            go_roundw
            case rel => exact ⟨j + 1, _, _, _, by omega, by go_num, ownsRow_setCell_below Hown2.out (by simp) _, HBk.out.set 15 _, HB2.out.setCell (by simp) _⟩
            case measure => simp [intOf]; omega
        · have hjd' : ¬ (j : Int) < c.d := by rw [HD.out]; omega
          have hje : j = c.d.toNat := by rw [HD.out]; omega
          have Hje := hide hje
          clear hje hag hnx hq
          go_wp2_with fail
          go_ret
          refine ⟨G, _, ss, _, la, lk, rfl, by omega, by rw [← Hje.out]; exact Hag4.out, ?_, HP.out, HB1.out.trans (Hnx4.out.mono (by omega))⟩
          exact HT1.out.below Hnx4.out (by have := HGe.out; omega)
end Go.Proofs.YtojpjaifhjigfaaGreatDoor

/- The document's agent in memory; place, tenant, pending, Waits, Status. -/
namespace Go.Proofs.YtojpjaifhjigfaaGreatDoor
open Go.RowKit Go.Maps

/-- A batch of the document's: with its pause, and when it may go. -/
structure RBat where
  b : Bat
  pa : Int
  af : Int
def RBat.cells (r : RBat) : List Value := r.b.cells ++ [.int .i64 r.pa, .int .i64 r.af]
theorem RBat.cells_length (r : RBat) : r.cells.length = 8 := rfl
theorem RBat.cell {l : List RBat} {p j : Nat} {r : RBat} {v : Value} (hp : l[p]? = some r) (hj : j < 8) (hv : r.cells[j]? = some v) : (l.flatMap RBat.cells)[p * 8 + j]? = some v := flat_cell RBat.cells 8 RBat.cells_length hp hj hv
/-- The document's agent. -/
structure Rf where
  c : Cfg
  m : Option Nat
  ns : List (List UInt8)
  rs : List RBat
  dead : List Nat
  time : Int
def Rf.bs (R : Rf) : List Bat := R.rs.map (·.b)

/-- Where its parts lie. -/
structure RfAt (w : World) (L : Labs) (who g : Nat) (R : Rf) (nv qv bv dv : Value) (la : Option Addr) (lk : Nat) : Prop where
  blk : BlkAt w L (some (who, .ag)) g (refCells R.c R.m nv qv bv dv (.slice la R.c.d.toNat lk) R.time) 109
  nm : RowAt w L (some (who, .nm)) 9 1 nv R.ns.length (R.ns.map encStr)
  tk : RowAt w L (some (who, .tk)) 112 8 bv R.rs.length (R.rs.flatMap RBat.cells)
  dd : RowAt w L (some (who, .dd)) 3 1 dv R.dead.length (ints R.dead)
def RefAt (w : World) (L : Labs) (who g : Nat) (R : Rf) : Prop := ∃ nv qv bv dv la lk, RfAt w L who g R nv qv bv dv la lk
theorem RefAt.keep {w w' : World} {L L' : Labs} {who g : Nat} {R : Rf} (h : RefAt w L who g R) {p : Lab → Prop} (s : Step p L w L' w') (hp : ∀ q, ¬ p (some (who, q))) : RefAt w' L' who g R := by
  obtain ⟨nv, qv, bv, dv, la, lk, h⟩ := h
  exact ⟨nv, qv, bv, dv, la, lk, h.blk.keep s (hp _), h.nm.keep s (hp _), h.tk.keep s (hp _), h.dd.keep s (hp _)⟩
theorem RefAt.alloc {w : World} {L : Labs} {who g : Nat} {R : Rf} (h : RefAt w L who g R) (o : Obj) : RefAt (w.alloc o) L who g R := h.keep (Step.alloc (p := fun _ => False) L w o) (fun _ h => h)

theorem Rf.get {R : Rf} {k : Nat} {r : RBat} (h : R.rs[k]? = some r) : R.bs[k]? = some r.b := by simp [Rf.bs, h]

set_option maxRecDepth 100000 in
set_option maxHeartbeats 1000000 in
theorem refPlace_any (L : Labs) (who g : Nat) (R : Rf) (id : List UInt8) (w : World) (h : RefAt w L who g R) (hb : R.rs.length ≤ 120) :
    Calls Tryz.prog 85 #[.pointer (some ⟨g, 0, none⟩), encStr id] w fun e w' => e = .returned (.int .i64 (findId R.bs id)) ∧ w' = w := by
  obtain ⟨nv, qv, bv, dv, la, lk, h⟩ := h
  obtain ⟨ta, tc, rfl, _⟩ := h.tk.shape
  have c13 : w.cell? ⟨g, 13, none⟩ = some (.slice ta R.rs.length tc) := h.blk.1.cell 13
  have HT := hide h.tk
  have hbl : R.bs.length = R.rs.length := by simp [Rf.bs]
  generalize hn : R.rs.length = n at *
  have Hn := hide hn
  have Hbl := hide hbl
  clear h hn hbl
  go_enter Tryz.func85, Tryz.ntmps85
  go_wp2_with fail
  go_loop [5] (fun i => ∃ k : Nat, k ≤ n ∧ i = .int .i64 k ∧ (∀ j b, j < k → R.bs[j]? = some b → (b.id == id) = false)) (fun i => n - (intOf i).toNat)
  case atStart => exact ⟨0, Nat.zero_le _, rfl, fun j b hj => by omega⟩
  case round =>
    obtain ⟨k, hk, rfl, hno⟩ := hrel
    have Hno := hide hno
    clear hno
    by_cases hlt : k < n
    · have hltI : (k : Int) < (n : Int) := by omega
      obtain ⟨gt, rfl, hgt, _, hct, _⟩ := HT.out.head (by omega)
      obtain ⟨r, hr⟩ : ∃ r, R.rs[k]? = some r := ⟨_, List.getElem?_eq_getElem (by rw [Hn.out]; exact hlt)⟩
      have e2 : w.cell? ⟨gt, k * 8 + 2, none⟩ = some (encStr r.b.id) := hct _ _ (RBat.cell hr (by omega) rfl)
      have Hr := hide hr
      clear hct hr
      cases hid : (r.b.id == id)
      · have Hid' := hide hid
        go_wp2_with fail
        go_round
        case rel =>
          refine ⟨k + 1, by omega, by go_num, fun j b' hj hj' => ?_⟩
          rcases Nat.lt_succ_iff_lt_or_eq.1 hj with h1 | h1
          · exact Hno.out j b' h1 hj'
          · subst h1
            rw [Rf.get Hr.out] at hj'
            cases hj'
            exact Hid'.out
        case measure => simp [intOf]; omega
      · have Hid' := hide hid
        go_wp2_with fail
        go_ret
        refine ⟨ret_int ?_, rfl⟩
        have hkb : k < R.bs.length := by rw [Hbl.out]; exact hlt
        have : R.bs.findIdx? (fun b => b.id == id) = some k := by
          rw [List.findIdx?_eq_some_iff_getElem]
          refine ⟨hkb, ?_, fun j hj => ?_⟩
          · obtain ⟨h1, h2⟩ := List.getElem?_eq_some_iff.1 (Rf.get Hr.out)
            simp only [h2]; exact Hid'.out
          · simp [Hno.out j _ hj (List.getElem?_eq_getElem (by omega))]
        simp [findId, this]
    · go_wp2_with fail
      go_ret
      refine ⟨ret_int ?_, rfl⟩
      have : R.bs.findIdx? (fun b => b.id == id) = none := by
        rw [List.findIdx?_eq_none_iff]
        intro b hb
        obtain ⟨j, hj, rfl⟩ := List.getElem_of_mem hb
        exact Hno.out j _ (by rw [Hbl.out] at hj; omega) (List.getElem?_eq_getElem hj)
      simp [findId, this]

/-- Where a name lies: -1, if it does not. -/
def findN (ns : List (List UInt8)) (x : List UInt8) : Int := match ns.findIdx? (fun y => y == x) with | some i => i | none => -1
theorem findN_neg (ns : List (List UInt8)) (x : List UInt8) : findN ns x < 0 ↔ x ∉ ns := by
  unfold findN
  cases h : ns.findIdx? (fun y => y == x) with
  | none =>
    rw [List.findIdx?_eq_none_iff] at h
    exact ⟨fun _ hm => by simpa using h x hm, fun _ => by simp⟩
  | some i =>
    rw [List.findIdx?_eq_some_iff_getElem] at h
    obtain ⟨h1, h2, _⟩ := h
    have : x ∈ ns := by
      have e : ns[i] = x := by simpa using h2
      rw [← e]; exact List.getElem_mem h1
    simp [this]

set_option maxRecDepth 100000 in
set_option maxHeartbeats 1000000 in
theorem refTenant_any (L : Labs) (who g : Nat) (R : Rf) (x : List UInt8) (w : World) (h : RefAt w L who g R) (hb : R.ns.length ≤ 120) :
    Calls Tryz.prog 84 #[.pointer (some ⟨g, 0, none⟩), encStr x] w fun e w' => e = .returned (.int .i64 (findN R.ns x)) ∧ w' = w := by
  obtain ⟨nv, qv, bv, dv, la, lk, h⟩ := h
  obtain ⟨ta, tc, rfl, _⟩ := h.nm.shape
  have c11 : w.cell? ⟨g, 11, none⟩ = some (.slice ta R.ns.length tc) := h.blk.1.cell 11
  have HT := hide h.nm
  generalize hn : R.ns.length = n at *
  have Hn := hide hn
  clear h hn
  go_enter Tryz.func84, Tryz.ntmps84
  go_wp2_with fail
  go_loop [5] (fun i => ∃ k : Nat, k ≤ n ∧ i = .int .i64 k ∧ (∀ j y, j < k → R.ns[j]? = some y → (y == x) = false)) (fun i => n - (intOf i).toNat)
  case atStart => exact ⟨0, Nat.zero_le _, rfl, fun j b hj => by omega⟩
  case round =>
    obtain ⟨k, hk, rfl, hno⟩ := hrel
    have Hno := hide hno
    clear hno
    by_cases hlt : k < n
    · have hltI : (k : Int) < (n : Int) := by omega
      obtain ⟨gt, rfl, hgt, _, hct, _⟩ := HT.out.head (by omega)
      obtain ⟨r, hr⟩ : ∃ r, R.ns[k]? = some r := ⟨_, List.getElem?_eq_getElem (by rw [Hn.out]; exact hlt)⟩
      have e2 : w.cell? ⟨gt, k, none⟩ = some (encStr r) := hct _ _ (strs_get hr)
      have Hr := hide hr
      clear hct hr
      cases hid : (r == x)
      · have Hid' := hide hid
        go_wp2_with fail
        go_round
        case rel =>
          refine ⟨k + 1, by omega, by go_num, fun j b' hj hj' => ?_⟩
          rcases Nat.lt_succ_iff_lt_or_eq.1 hj with h1 | h1
          · exact Hno.out j b' h1 hj'
          · subst h1
            rw [Hr.out] at hj'
            cases hj'
            exact Hid'.out
        case measure => simp [intOf]; omega
      · have Hid' := hide hid
        go_wp2_with fail
        go_ret
        refine ⟨ret_int ?_, rfl⟩
        have : R.ns.findIdx? (fun y => y == x) = some k := by
          rw [List.findIdx?_eq_some_iff_getElem]
          refine ⟨by rw [Hn.out]; exact hlt, ?_, fun j hj => ?_⟩
          · obtain ⟨h1, h2⟩ := List.getElem?_eq_some_iff.1 Hr.out
            simp only [h2]; exact Hid'.out
          · have := Hno.out j _ hj (List.getElem?_eq_getElem (by rw [Hn.out]; omega))
            simpa using this
        simp [findN, this]
    · go_wp2_with fail
      go_ret
      refine ⟨ret_int ?_, rfl⟩
      have : R.ns.findIdx? (fun y => y == x) = none := by
        rw [List.findIdx?_eq_none_iff]
        intro b hb
        obtain ⟨j, hj, rfl⟩ := List.getElem_of_mem hb
        exact Hno.out j _ (by rw [Hn.out] at hj; omega) (List.getElem?_eq_getElem hj)
      simp [findN, this]

/-- How many of a tenant are pending. -/
def cntP (bs : List Bat) (t : List UInt8) : Nat := (bs.filter fun b => (b.ten == t) && decide (b.st = 1)).length
theorem cntP_le (bs : List Bat) (t : List UInt8) : cntP bs t ≤ bs.length := List.length_filter_le _ _
theorem cntP_step {bs : List Bat} {k : Nat} {b : Bat} (h : bs[k]? = some b) (t : List UInt8) : cntP (bs.take (k + 1)) t = cntP (bs.take k) t + (if (b.ten == t) && decide (b.st = 1) then 1 else 0) := by
  have hk : k < bs.length := (List.getElem?_eq_some_iff.1 h).1
  have hb : bs[k] = b := (List.getElem?_eq_some_iff.1 h).2
  unfold cntP
  rw [List.take_succ_eq_append_getElem hk, List.filter_append, List.length_append, hb]
  congr 1
  simp only [List.filter_cons, List.filter_nil]
  split <;> simp

set_option maxRecDepth 100000 in
set_option maxHeartbeats 1000000 in
theorem refPending_any (L : Labs) (who g : Nat) (R : Rf) (x : List UInt8) (w : World) (h : RefAt w L who g R) (hb : R.rs.length ≤ 120) :
    Calls Tryz.prog 86 #[.pointer (some ⟨g, 0, none⟩), encStr x] w fun e w' => e = .returned (.int .i64 (cntP R.bs x)) ∧ w' = w := by
  obtain ⟨nv, qv, bv, dv, la, lk, h⟩ := h
  obtain ⟨ta, tc, rfl, _⟩ := h.tk.shape
  have c13 : w.cell? ⟨g, 13, none⟩ = some (.slice ta R.rs.length tc) := h.blk.1.cell 13
  have HT := hide h.tk
  have hbl : R.bs.length = R.rs.length := by simp [Rf.bs]
  generalize hn : R.rs.length = n at *
  have Hn := hide hn
  have Hbl := hide hbl
  clear h hn hbl
  go_enter Tryz.func86, Tryz.ntmps86
  go_wp2_with fail
  go_loop [5, 6] (fun q i => ∃ k c : Nat, k ≤ n ∧ c ≤ k ∧ i = .int .i64 k ∧ q = .int .i64 c ∧ Hid (c = cntP (R.bs.take k) x)) (fun _ i => n - (intOf i).toNat)
  case atStart => exact ⟨0, 0, Nat.zero_le _, Nat.le_refl _, rfl, rfl, by simp [Hid, cntP]⟩
  case round =>
    obtain ⟨k, c, hk, hck, rfl, rfl, Hc⟩ := hrel
    by_cases hlt : k < n
    · have hltI : (k : Int) < (n : Int) := by omega
      obtain ⟨gt, rfl, hgt, _, hct, _⟩ := HT.out.head (by omega)
      obtain ⟨r, hr⟩ : ∃ r, R.rs[k]? = some r := ⟨_, List.getElem?_eq_getElem (by rw [Hn.out]; exact hlt)⟩
      have e1 : w.cell? ⟨gt, k * 8 + 1, none⟩ = some (encStr r.b.ten) := hct _ _ (RBat.cell hr (by omega) rfl)
      have e4 : w.cell? ⟨gt, k * 8 + 4, none⟩ = some (.int .i64 r.b.st) := hct _ _ (RBat.cell hr (by omega) rfl)
      have Hst : Hid (cntP (R.bs.take (k + 1)) x = cntP (R.bs.take k) x + (if (r.b.ten == x) && decide (r.b.st = 1) then 1 else 0)) := cntP_step (Rf.get hr) x
      clear hct hr
      cases hid : (r.b.ten == x)
      · have Hid' := hide hid
        go_wp2_with fail
        go_round
        case rel => exact ⟨k + 1, c, by omega, by omega, by go_num, rfl, by have := Hst.out; rw [Hid'.out] at this; simp at this; exact Hc.out.trans this.symm⟩
        case measure => simp [intOf]; omega
      · have Hid' := hide hid
        by_cases hst : r.b.st = 1
        · have Hs := hide hst
          go_wp2_with fail
          go_round
          case rel => exact ⟨k + 1, c + 1, by omega, by omega, by go_num, by go_num, by have := Hst.out; rw [Hid'.out, Hs.out] at this; simp at this; show c + 1 = _; rw [this, Hc.out]⟩
          case measure => simp [intOf]; omega
        · have Hs := hide hst
          go_wp2_with fail
          go_round
          case rel => exact ⟨k + 1, c, by omega, by omega, by go_num, rfl, by have := Hst.out; rw [Hid'.out] at this; simp [Hs.out] at this; exact Hc.out.trans this.symm⟩
          case measure => simp [intOf]; omega
    · go_wp2_with fail
      go_ret
      refine ⟨ret_int ?_, rfl⟩
      have := Hc.out
      rw [List.take_of_length_le (by rw [Hbl.out]; omega)] at this
      rw [this]

set_option maxHeartbeats 400000 in
theorem refWaits_any (L : Labs) (who g : Nat) (R : Rf) (t : Nat) (x : List UInt8) (w : World) (h : RefAt w L who g R) (hb : R.rs.length ≤ 120) (hx : R.ns[t]? = some x) :
    Calls Tryz.prog 121 #[.pointer (some ⟨g, 0, none⟩), .int .i64 t] w fun e w' => e = .returned (.int .i64 (cntP R.bs x)) ∧ w' = w := by
  have H := hide (refPending_any L who g R x w h hb)
  obtain ⟨nv, qv, bv, dv, la, lk, h⟩ := h
  obtain ⟨ta, tc, rfl, _⟩ := h.nm.shape
  have htl : t < R.ns.length := (List.getElem?_eq_some_iff.1 hx).1
  obtain ⟨gt, rfl, hgt, _, hct, _⟩ := h.nm.head (by omega)
  have c11 : w.cell? ⟨g, 11, none⟩ = some (.slice (some ⟨gt, 0, none⟩) R.ns.length tc) := h.blk.1.cell 11
  have e2 : w.cell? ⟨gt, t, none⟩ = some (encStr x) := hct _ _ (strs_get hx)
  have htI : (t : Int) < (R.ns.length : Int) := by omega
  clear h hct
  go_enter Tryz.func121, Tryz.ntmps121
  go_wp2_with fail
  refine H.out.mono ?_
  rintro e w' ⟨rfl, hw⟩
  have Hw := hide hw
  clear hw
  go_wp2_with fail
  go_ret
  exact ⟨rfl, Hw.out⟩
end Go.Proofs.YtojpjaifhjigfaaGreatDoor

/- Status and Died of the document's agent. -/
namespace Go.Proofs.YtojpjaifhjigfaaGreatDoor
open Go.RowKit Go.Maps

set_option maxRecDepth 100000 in
set_option maxHeartbeats 1000000 in
theorem refStatus_none (L : Labs) (who g : Nat) (R : Rf) (id : List UInt8) (w : World) (h : RefAt w L who g R) (hb : R.rs.length ≤ 120) (hid : findId R.bs id = -1) :
    Calls Tryz.prog 83 #[.pointer (some ⟨g, 0, none⟩), encStr id] w fun e w' => e = .returned (.tuple #[noStat, .int .i64 5]) ∧ Below w.heap.size w w' := by
  have H := fun o => hide (refPlace_any L who g R id (w.alloc o) (h.alloc o) hb)
  rw [hid] at H
  clear h hid
  go_enter Tryz.func83, Tryz.ntmps83
  go_wp2_with fail
  refine (H _).out.mono ?_
  rintro e w1 ⟨rfl, rfl⟩
  go_wp2_with fail
  refine bodyPost_ret (v := .tuple #[noStat, .int .i64 5]) (results_cell_and Tryz.results83 rfl (run_loadVar_mid _ _ 0 82 [.int .i64 0, .int .i64 0] _ (Blk.range (Blk.new w _ _) 0 _ rfl) Tryz.underlying82 rfl infoStatus) rfl) rfl ⟨rfl, (Below.refl _ _).alloc (Nat.le_refl _) _⟩

set_option maxRecDepth 100000 in
set_option maxHeartbeats 1000000 in
theorem refStatus_some (L : Labs) (who g : Nat) (R : Rf) (id : List UInt8) (i : Nat) (r : RBat) (w : World) (h : RefAt w L who g R) (hb : R.rs.length ≤ 120) (hid : findId R.bs id = i) (hr : R.rs[i]? = some r) :
    Calls Tryz.prog 83 #[.pointer (some ⟨g, 0, none⟩), encStr id] w fun e w' => e = .returned (.tuple #[stat r.b, .int .i64 0]) ∧ Below w.heap.size w w' := by
  have H := fun o => hide (refPlace_any L who g R id (w.alloc o) (h.alloc o) hb)
  rw [hid] at H
  obtain ⟨nv, qv, bv, dv, la, lk, h⟩ := h
  obtain ⟨ta, tc, rfl, _⟩ := h.tk.shape
  have hil : i < R.rs.length := (List.getElem?_eq_some_iff.1 hr).1
  obtain ⟨gt, rfl, hgt, _, hct, _⟩ := h.tk.head (by omega)
  have c13 : w.cell? ⟨g, 13, none⟩ = some (.slice (some ⟨gt, 0, none⟩) R.rs.length tc) := h.blk.1.cell 13
  have c4 : w.cell? ⟨gt, i * 8 + 4, none⟩ = some (.int .i64 r.b.st) := hct _ _ (RBat.cell hr (by omega) rfl)
  have c5 : w.cell? ⟨gt, i * 8 + 5, none⟩ = some (.int .i64 r.b.fl) := hct _ _ (RBat.cell hr (by omega) rfl)
  have hilI : (i : Int) < (R.rs.length : Int) := by omega
  have hi0 : ¬ ((i : Int) < 0) := by omega
  have n13 := fun o => cell?_alloc_old o c13
  have n4 := fun o => cell?_alloc_old o c4
  have n5 := fun o => cell?_alloc_old o c5
  clear h hid hct
  go_enter Tryz.func83, Tryz.ntmps83
  go_wp2_with fail
  refine (H _).out.mono ?_
  rintro e w1 ⟨rfl, rfl⟩
  go_wp2_with fail
  go_region
  all_goals
    go_wp2_with fail
    refine bodyPost_ret (v := .tuple #[stat r.b, .int .i64 0]) (results_cell_and Tryz.results83 rfl (run_loadVar_mid _ _ 0 82 [.int .i64 r.b.st, .int .i64 r.b.fl] _ (Blk.range (Blk.new w _ _) 0 _ rfl) Tryz.underlying82 rfl infoStatus) rfl) rfl ⟨rfl, ((Below.refl _ _).alloc (Nat.le_refl _) _).drew⟩

set_option maxHeartbeats 400000 in
theorem refDied_nil (L : Labs) (who g : Nat) (R : Rf) (w : World) (h : RefAt w L who g R) (hd : R.dead = []) : Calls Tryz.prog 79 #[.pointer (some ⟨g, 0, none⟩)] w fun e w' => e = .returned (.slice none 0 0) ∧ w' = w := by
  obtain ⟨nv, qv, bv, dv, la, lk, h⟩ := h
  obtain ⟨da, dc, rfl, _⟩ := h.dd.shape
  have c14 : w.cell? ⟨g, 14, none⟩ = some (.slice da 0 dc) := by
    have := h.blk.1.cell 14
    simpa [hd] using this
  clear h
  go_enter Tryz.func79, Tryz.ntmps79
  go_wp2
  refine wp_loop_rounds 1 ?_
  rw [rounds_succ]
  go_wp2
  go_ret
  exact ⟨rfl, rfl⟩
end Go.Proofs.YtojpjaifhjigfaaGreatDoor

/- (*pair).counts: does a map tell how many wait? -/
namespace Go.Proofs.YtojpjaifhjigfaaGreatDoor
open Go.RowKit Go.Maps

/-- The pairs' cells. -/
abbrev prCells (gx gy : Nat) (c : Cfg) (m : Option Nat) (sv lg : Value) : Array Value :=
  #[.pointer (some ⟨gx, 0, none⟩), .pointer (some ⟨gy, 0, none⟩), .int .i64 c.d, .map m, .int .i64 c.q, .int .i64 c.at', .int .i64 c.ba, .int .i64 c.ca, .int .i64 c.ti, .int .i64 c.wi, .int .i64 c.le, .float .f64 c.th, .int .i64 c.op, sv, lg]

def posB (bs : List Bat) (x : List UInt8) : Bool := decide (0 < cntP bs x)
def cntN (bs : List Bat) (ns : List (List UInt8)) : Nat := (ns.filter (posB bs)).length
theorem cntN_step {bs : List Bat} {ns : List (List UInt8)} {k : Nat} {x : List UInt8} (h : ns[k]? = some x) : cntN bs (ns.take (k + 1)) = cntN bs (ns.take k) + (if posB bs x then 1 else 0) := by
  have hk : k < ns.length := (List.getElem?_eq_some_iff.1 h).1
  have hb : ns[k] = x := (List.getElem?_eq_some_iff.1 h).2
  unfold cntN
  rw [List.take_succ_eq_append_getElem hk, List.filter_append, List.length_append, hb]
  congr 1
  simp only [List.filter_cons, List.filter_nil]
  split <;> simp

/-- A map of counts has as many entries as there are names with something. -/
theorem size_counts {w : World} {b n : Nat} {D : DataW Unit} {bs : List Bat} {ns : List (List UInt8)} (h : OM w b n D) (hC : CountsAre D (cntP bs)) (hns : ns.Nodup) (hk : ∀ x, 0 < cntP bs x → x ∈ ns) (hl : ∀ x ∈ ns, x.length ≤ maxLen) : Maps.size D = cntN bs ns := by
  rw [← size_strKeys h]
  unfold cntN
  refine List.Perm.length_eq ((List.perm_ext_iff_of_nodup ?_ (hns.filter _)).2 fun x => ?_)
  · obtain ⟨es, rfl, hkk⟩ := h.keysOf
    obtain ⟨es', e', hpw, _⟩ := h.entries lawS
    cases e'
    show (es.map fun p => strOf p.1).Nodup
    rw [List.nodup_iff_pairwise_ne, List.pairwise_map]
    refine (List.Pairwise.imp_of_mem (fun {p q} hp hq hne he => hne ?_) hpw)
    obtain ⟨v, hv⟩ := hkk p hp
    obtain ⟨y, _, hy, _⟩ := Maps.keyOf_str Tryz.underlying9 hv
    obtain ⟨v', hv'⟩ := hkk q hq
    obtain ⟨y', _, hy', _⟩ := Maps.keyOf_str Tryz.underlying9 hv'
    rw [hy, hy'] at he ⊢
    simpa [strOf] using he
  · rw [mem_strKeys h, List.mem_filter]
    constructor
    · intro hx
      have hxl : x.length ≤ maxLen := strKeys_le h Tryz.underlying9 x ((mem_strKeys h x).2 hx)
      rw [hC.has hxl] at hx
      have hx' : 0 < cntP bs x := by simpa using hx
      exact ⟨hk x hx', by simpa [posB] using hx'⟩
    · rintro ⟨hx, hp⟩
      rw [hC.has (hl x hx)]
      exact hp

set_option maxRecDepth 100000 in
set_option maxHeartbeats 1000000 in
theorem counts_any (L : Labs) (who gp gy b nb : Nat) (R : Rf) (D : DataW Unit) (w : World) (hp : w.cell? ⟨gp, 1, none⟩ = some (.pointer (some ⟨gy, 0, none⟩))) (h : RefAt w L who gy R) (hb : R.rs.length ≤ 120) (hnl : R.ns.length ≤ 120) (hO : OM w b nb D) (hC : CountsAre D (cntP R.bs)) (hl : ∀ x ∈ R.ns, x.length ≤ maxLen) (hsz : Maps.size D = cntN R.bs R.ns) :
    Calls Tryz.prog 81 #[.pointer (some ⟨gp, 0, none⟩), .map (some b)] w fun e w' => e = .returned (.bool true) ∧ w' = w := by
  have HW := hide (fun t x hx => refWaits_any L who gy R t x w h hb hx)
  obtain ⟨nv, qv, bv, dv, la, lk, h⟩ := h
  obtain ⟨ta, tc, rfl, _⟩ := h.nm.shape
  have c11 : w.cell? ⟨gy, 11, none⟩ = some (.slice ta R.ns.length tc) := h.blk.1.cell 11
  have HT := hide h.nm
  have HC := hide hC
  have Hl := hide hl
  have hbl : R.bs.length ≤ 120 := by simpa [Rf.bs] using hb
  have hln := fun ty => hO.len Tryz.underlying22 ty
  have Hs := hide hsz
  rw [hsz] at hln
  generalize hn : R.ns.length = n at *
  have Hn := hide hn
  clear h hn hC hl hsz
  go_enter Tryz.func81, Tryz.ntmps81
  go_wp2_with fail
  go_loop [5, 6, 7] (fun q s i => ∃ k c : Nat, k ≤ n ∧ c ≤ k ∧ q = .int .i64 c ∧ s = .bool true ∧ i = .int .i64 k ∧ Hid (c = cntN R.bs (R.ns.take k))) (fun _ _ i => n - (intOf i).toNat)
  case atStart => exact ⟨0, 0, Nat.zero_le _, Nat.le_refl _, rfl, rfl, rfl, by simp [Hid, cntN]⟩
  case round =>
    obtain ⟨k, c, hk, hck, rfl, rfl, rfl, Hc⟩ := hrel
    by_cases hlt : k < n
    · have hltI : (k : Int) < (n : Int) := by omega
      obtain ⟨gt, rfl, hgt, _, hct, _⟩ := HT.out.head (by omega)
      obtain ⟨x, hx⟩ : ∃ x, R.ns[k]? = some x := ⟨_, List.getElem?_eq_getElem (by rw [Hn.out]; exact hlt)⟩
      have e2 : w.cell? ⟨gt, k, none⟩ = some (encStr x) := hct _ _ (strs_get hx)
      have hxl := Hl.out x (List.mem_of_getElem? hx)
      have hkS := keyStr hxl
      have HWx := hide (HW.out k x hx)
      have Hst := hide (cntN_step (bs := R.bs) hx)
      have hc1 : cntP R.bs x ≤ 120 := Nat.le_trans (cntP_le _ _) hbl
      clear hct hx
      go_wp2_with fail
      refine HWx.out.mono ?_
      rintro e w' ⟨rfl, rfl⟩
      by_cases h0 : 0 < cntP R.bs x
      · have hhas : Maps.has D (.string x) = true := by rw [HC.out.has hxl]; simpa using h0
        have h0I : (0 : Int) < (cntP R.bs x : Int) := by omega
        have Hst1 : Hid (cntN R.bs (R.ns.take (k + 1)) = cntN R.bs (R.ns.take k) + 1) := by have := Hst.out; rw [show posB R.bs x = true by simpa [posB] using h0] at this; simp only [Hid]; simpa using this
        go_wp2_with (first
          | (at_lookup; refine wpList_lookup_own_ok_int _ rfl _ _ 22 rfl 9 3 .i64 lawS Tryz.underlying22 Tryz.underlying3 (zeroInt _) b _ _ rfl hO _ _ rfl hkS ?_; intro q hq hwq; obtain rfl := HC.out.look hxl hq; rw [hhas])
          | fail)
        go_round
        case rel => exact ⟨k + 1, c + 1, by omega, by omega, by go_num, rfl, by go_num, by show c + 1 = _; rw [Hst1.out, Hc.out]⟩
        case measure => simp [intOf]; omega
      · have hhas : Maps.has D (.string x) = false := by rw [HC.out.has hxl]; simpa using h0
        have hz : cntP R.bs x = 0 := by omega
        have Hst1 : Hid (cntN R.bs (R.ns.take (k + 1)) = cntN R.bs (R.ns.take k)) := by have := Hst.out; rw [show posB R.bs x = false by simpa [posB] using h0] at this; simp only [Hid]; simpa using this
        go_wp2_with (first
          | (at_lookup; refine wpList_lookup_own_ok_int _ rfl _ _ 22 rfl 9 3 .i64 lawS Tryz.underlying22 Tryz.underlying3 (zeroInt _) b _ _ rfl hO _ _ rfl hkS ?_; intro q hq hwq; obtain rfl := HC.out.look hxl hq; rw [hhas])
          | fail)
        go_round
        case rel => exact ⟨k + 1, c, by omega, by omega, rfl, rfl, by go_num, by show c = _; rw [Hst1.out, Hc.out]⟩
        case measure => simp [intOf]; omega
    · have Hc' : Hid (c = cntN R.bs R.ns) := by have := Hc.out; rw [List.take_of_length_le (by rw [Hn.out]; omega)] at this; exact this
      have hcI : ((cntN R.bs R.ns : Nat) : Int) = (c : Int) := by rw [Hc'.out]
      go_wp2_with fail
      go_ret
      exact ⟨rfl, rfl⟩
end Go.Proofs.YtojpjaifhjigfaaGreatDoor
