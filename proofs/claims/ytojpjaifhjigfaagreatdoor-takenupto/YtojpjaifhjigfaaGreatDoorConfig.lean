/- conduitlaw.config and example: a configuration with its tenants. -/
import Derived.Test.YtojpjaifhjigfaaGreatDoorSame
import Derived.Deep.RegionHeld3
namespace Go.Proofs.YtojpjaifhjigfaaGreatDoor
open Go.RowKit Go.Maps
attribute [local go_sem] run_store_float

theorem infoConfig : (Tryz.prog.info? 25).map (·.size) = some 11 := by kernel_rfl

theorem splice_all (cs : Array Value) (vs : Array Value) (h : cs.size = vs.size) : splice cs 0 vs.toList = vs := by
  have key : ∀ (l : List Value) (cs : Array Value) (o : Nat), cs.size = o + l.length → (splice cs o l).toList = cs.toList.take o ++ l := by
    intro l
    induction l with
    | nil => intro cs o h; simp only [splice, List.append_nil]; rw [List.take_of_length_le]; simp at h; simp [h]
    | cons v r ih =>
      intro cs o h
      simp only [splice]
      simp at h
      rw [ih _ _ (by simp; omega)]
      simp only [Array.toList_setIfInBounds]
      rw [List.take_succ_eq_append_getElem (by simp; omega), List.take_set_of_le (by omega)]
      simp
  have := key vs.toList cs 0 (by simpa using h)
  apply Array.toList_inj.1
  simpa using this
theorem cfgOne (c : Cfg) (m : Option Nat) : (c.cells m).all (·.oneCell') = true := by simp [Value.oneCell']

/-- A list of tenants lies behind this slice. -/
def TenAt (w : World) (a : Option Addr) (ts : List (List UInt8 × Int)) : Prop := ts = [] ∨ ∃ b off, a = some ⟨b, off, none⟩ ∧ b < w.heap.size ∧
  ∀ k (h : k < ts.length), w.cell? ⟨b, off + k * 2, none⟩ = some (encStr (ts[k]'h).1) ∧ w.cell? ⟨b, off + k * 2 + 1, none⟩ = some (.int .i64 (ts[k]'h).2)
def TenOk (ts : List (List UInt8 × Int)) : Prop := (∀ p ∈ ts, p.1.length ≤ maxLen ∧ (Lit.int .i64 p.2).wf = true) ∧ ts.length ≤ big
/-- What the map of a list of tenants reads as. -/
def DT (ts : List (List UInt8 × Int)) : DataW Unit := ts.foldl (fun D p => D.put (.string p.1) (.lit (.int .i64 p.2))) (.map [])
theorem DT_snoc (ts : List (List UInt8 × Int)) (p : List UInt8 × Int) : DT (ts ++ [p]) = (DT ts).put (.string p.1) (.lit (.int .i64 p.2)) := by simp [DT, List.foldl_append]

/-- The map value of a list of tenants (nil, if there is none). -/
abbrev mapV (ts : List (List UInt8 × Int)) (b : Nat) : Option Nat := if ts = [] then none else some b

theorem om_new {V : World} {n : Nat} (h : V.heap.size = n) : OM (V.alloc (.map #[] 0)) n 0 (.map []) := h ▸ World.ownsMap_made (H := Unit) V Tryz.prog 9 (plainElem Tryz.prog 3)

set_option maxRecDepth 100000 in
set_option maxHeartbeats 400000 in
theorem config_nil (c : Cfg) (m : Option Nat) (a : Option Addr) (cap : Nat) (w : World) : Calls Tryz.prog 15 #[c.val m, .slice a 0 cap] w fun e w' => e = .returned (c.val none) ∧ Below w.heap.size w w' := by
  go_enter Tryz.func15, Tryz.ntmps15
  go_wp2
  refine wp_loop_rounds 1 ?_
  rw [rounds_succ]
  go_wp2
  exact bodyPost_ret (v := c.val none) (by simp [results, Tryz.results15, go_sem]) rfl ⟨rfl, ((Below.refl _ _).alloc (Nat.le_refl _) _).alloc (by simp) _⟩

set_option maxRecDepth 100000 in
set_option maxHeartbeats 400000 in
theorem config_some (c : Cfg) (m : Option Nat) (b off cap : Nat) (ts : List (List UInt8 × Int)) (w : World) (h0 : 0 < ts.length) (hb : b < w.heap.size) (hok : TenOk ts)
    (hc : ∀ k (h : k < ts.length), w.cell? ⟨b, off + k * 2, none⟩ = some (encStr (ts[k]'h).1) ∧ w.cell? ⟨b, off + k * 2 + 1, none⟩ = some (.int .i64 (ts[k]'h).2)) :
    Calls Tryz.prog 15 #[c.val m, .slice (some ⟨b, off, none⟩) ts.length cap] w fun e w' => ∃ b', e = .returned (c.val (some b')) ∧ w.heap.size ≤ b' ∧ OM w' b' ts.length (DT ts) ∧ Below w.heap.size w w' := by
  have hmm := @run_makeMap Tryz.prog
  have HC := hide hc
  have HO := hide hok
  have hbig : (ts.length : Int) ≤ 8796093022208 := by have := hok.2; unfold big at this; omega
  have h0I : (0 : Int) < (ts.length : Int) := by omega
  clear hc hok
  go_enter Tryz.func15, Tryz.ntmps15
  go_wp2_with fail
  generalize hW : World.alloc (World.alloc (World.alloc w _) _) (Obj.map #[] 0) = W
  have hbW : Below w.heap.size w W := by rw [← hW]; exact (((Below.refl _ _).alloc (Nat.le_refl _) _).alloc (by simp) _).alloc (by simp; omega) _
  have hm0 : OM W (w.heap.size + 1 + 1) 0 (.map []) := by rw [← hW]; exact om_new (by simp)
  have hk0 : Blk W w.heap.size (c.cells (some (w.heap.size + 1 + 1))) 25 := by rw [← hW]; exact ((Blk.new w _ _).alloc _).alloc _
  have hk1 : ∃ cs, Blk W (w.heap.size + 1) cs 25 ∧ cs.size = 11 := by rw [← hW]; exact ⟨_, (Blk.made (by simp) _ _).alloc _, rfl⟩
  have Hk0 := hide hk0
  have Hk1 := hide hk1
  have Hm0 := hide hm0
  have HbW := hide hbW
  clear hW hbW hm0 hk0 hk1
  go_loopw [5] (fun i wr => ∃ k : Nat, k ≤ ts.length ∧ i = .int .i64 k ∧ OM wr (w.heap.size + 1 + 1) k (DT (ts.take k)) ∧ Blk wr w.heap.size (c.cells (some (w.heap.size + 1 + 1))) 25 ∧
      (∃ cs, Blk wr (w.heap.size + 1) cs 25 ∧ cs.size = 11) ∧ Below w.heap.size w wr) (fun i _ => ts.length - (intOf i).toNat)
  case atStart => exact ⟨0, Nat.zero_le _, rfl, Hm0.out, Hk0.out, Hk1.out, HbW.out⟩
  case round =>
    obtain ⟨k, hk, rfl, hm, hb0, hb1, hnx⟩ := hrel
    have Hb0 := hide hb0
    have Hb1 := hide hb1
    have Hnx := hide hnx
    by_cases hlt : k < ts.length
    · have hltI : (k : Int) < (ts.length : Int) := by omega
      obtain ⟨c1, c2⟩ := HC.out k hlt
      have e1 : wr.cell? ⟨b, off + k * 2, none⟩ = some (encStr (ts[k]'hlt).1) := by rw [hnx.cell (p := ⟨b, _, none⟩) hb]; exact c1
      have e2 : wr.cell? ⟨b, off + k * 2 + 1, none⟩ = some (.int .i64 (ts[k]'hlt).2) := by rw [hnx.cell (p := ⟨b, _, none⟩) hb]; exact c2
      have e3 : wr.cell? ⟨w.heap.size, 1, none⟩ = some (.map (some (w.heap.size + 1 + 1))) := hb0.cell 1
      obtain ⟨o1, o2⟩ := HO.out.1 (ts[k]'hlt) (List.getElem_mem hlt)
      obtain ⟨w2, hrun, hm2, hg2⟩ := (hm.drew).update lawS Tryz.underlying22 (by unfold maxLen; omega) (keyOfStr o1) (plainElem_int Tryz.underlying3 o2)
      have hwl : w.heap.size ≤ wr.heap.size := hnx.size
      have f1 : w2.cell? ⟨b, off + k * 2, none⟩ = some (encStr (ts[k]'hlt).1) := by rw [World.cell?_of_block (w := wr.drew) (a := ⟨b, _, none⟩) (hg2.block b (Nat.lt_of_lt_of_le hb hwl) (by simp; omega))]; exact e1
      have f2 : w2.cell? ⟨b, off + k * 2 + 1, none⟩ = some (.int .i64 (ts[k]'hlt).2) := by rw [World.cell?_of_block (w := wr.drew) (a := ⟨b, _, none⟩) (hg2.block b (Nat.lt_of_lt_of_le hb hwl) (by simp; omega))]; exact e2
      have f3 : w2.cell? ⟨w.heap.size, 1, none⟩ = some (.map (some (w.heap.size + 1 + 1))) := by rw [World.cell?_of_block (w := wr.drew) (a := ⟨w.heap.size, _, none⟩) (hg2.block _ hb0.lt (by simp; omega))]; exact e3
      have Hm2 := hide hm2
      have Hg2 := hide hg2
      clear c1 c2 hm hb0 hb1 hnx hm2 hg2
      go_wp2_with fail
      go_region_held3 (fun w' => w'.cell? ⟨b, off + k * 2, none⟩ = some (encStr (ts[k]'hlt).1) ∧ w'.cell? ⟨b, off + k * 2 + 1, none⟩ = some (.int .i64 (ts[k]'hlt).2) ∧ w'.cell? ⟨w.heap.size, 1, none⟩ = some (.map (some (w.heap.size + 1 + 1)))) (go_keep)
        (fail)
      go_wp2_with fail
      go_roundw
      case rel =>
        refine ⟨k + 1, by omega, by go_num, ?_, Hb0.out.grown (w := wr.drew) Hg2.out (by simp; omega), ?_, ?_⟩
        · rw [List.take_succ_eq_append_getElem hlt, DT_snoc]; exact Hm2.out
        · obtain ⟨cs, h1, h2⟩ := Hb1.out
          exact ⟨cs, Blk.grown (w := wr.drew) h1 Hg2.out (by simp), h2⟩
        · exact (Hnx.out.drew).grown Hg2.out Hnx.out.size (fun j hj => by cases hj; omega)
      case measure => simp [intOf]; omega
    · have Hk : Hid (ts.take k = ts) := List.take_of_length_le (by omega)
      have Hm := hide hm
      obtain ⟨cs, hcs, hcz⟩ := Hb1.out
      clear hm hb1 hnx
      go_wp2_with (first
        | (refine wpList_load_mid rfl 25 _ rfl w.heap.size 0 rfl (c.cells (some (w.heap.size + 1 + 1))).toList _ (Hb0.out.range 0 _ rfl) Tryz.underlying25 rfl infoConfig ?_)
        | (refine wpList_store_mid rfl 25 _ _ rfl (w.heap.size + 1) 0 (c.cells (some (w.heap.size + 1 + 1))) rfl rfl (hcs.there 0 11 (by omega)) infoConfig (cfgOne c _) ?_)
        | fail)
      have hsp : splice cs 0 (c.cells (some (w.heap.size + 1 + 1))).toList = c.cells (some (w.heap.size + 1 + 1)) := splice_all cs _ (by simpa using hcz)
      have hfin : Blk (wr.setCells (w.heap.size + 1) 0 (c.cells (some (w.heap.size + 1 + 1))).toList) (w.heap.size + 1) (c.cells (some (w.heap.size + 1 + 1))) 25 := by
        have h := Blk.setCells (c.cells (some (w.heap.size + 1 + 1))).toList 0 hcs
        rw [hsp] at h
        exact h
      refine bodyPost_ret (v := c.val (some (w.heap.size + 1 + 1))) (results_cell1 Tryz.results15 rfl (run_loadVar_mid _ _ 0 25 (c.cells (some (w.heap.size + 1 + 1))).toList _ (hfin.range 0 _ rfl) Tryz.underlying25 rfl infoConfig)) rfl ⟨_, rfl, by omega, ?_, below_setCells (by omega) _ 0 Hnx.out⟩
      have h2 := Hm.out
      rw [Hk.out] at h2
      obtain ⟨es, clock, k1, k2⟩ := h2.mono (by omega : k ≤ ts.length)
      exact ⟨es, clock, by rw [heap_setCells _ 0 (by omega)]; exact k1, k2⟩

theorem config_any (c : Cfg) (m : Option Nat) (a : Option Addr) (cap : Nat) (ts : List (List UInt8 × Int)) (w : World) (hok : TenOk ts) (h : TenAt w a ts) :
    Calls Tryz.prog 15 #[c.val m, .slice a ts.length cap] w fun e w' => ∃ m', e = .returned (c.val m') ∧ MapAt w' m' (DT ts) ∧ (∀ b, m' = some b → w.heap.size ≤ b) ∧ Below w.heap.size w w' := by
  rcases h with rfl | ⟨b, off, rfl, hb, hc⟩
  · refine (config_nil c m a cap w).mono ?_
    rintro e w' ⟨rfl, hb⟩
    exact ⟨none, rfl, Or.inl ⟨rfl, rfl⟩, fun b h => (by cases h), hb⟩
  · by_cases h0 : 0 < ts.length
    · refine (config_some c m b off cap ts w h0 hb hok hc).mono ?_
      rintro e w' ⟨b', rfl, h1, h2, h3⟩
      exact ⟨some b', rfl, Or.inr ⟨b', _, rfl, h2, hok.2⟩, fun b h => (by cases h; exact h1), h3⟩
    · have e : ts = [] := List.eq_nil_of_length_eq_zero (by omega)
      subst e
      refine (config_nil c m _ cap w).mono ?_
      rintro e w' ⟨rfl, hb⟩
      exact ⟨none, rfl, Or.inl ⟨rfl, rfl⟩, fun b h => (by cases h), hb⟩
end Go.Proofs.YtojpjaifhjigfaaGreatDoor
