/- Steps of the proof (several texts in one): AllOpen, AllKept. -/
import Derived.Test.YtojpjaifhjigfaaGreatDoorMAllupto29

/- conduitref.Open of batches and dead ones. -/
namespace Go.Proofs.YtojpjaifhjigfaaGreatDoor
open Go.RowKit Go.Maps
attribute [local go_sem] run_store_float

/-- What Open makes of batches that it is handed. -/
def opened (c : Cfg) (rs : List RBat) : List RBat := rs.map fun r => ⟨r.b, c.ba, 0⟩
/-- The document's agent of batches and dead ones. -/
def Rf.opened (c : Cfg) (m : Option Nat) (D : DataW Unit) (ss : List (List UInt8)) (rs : List RBat) (dead : List Nat) : Rf := { Rf.new c m D ss with rs := Go.Proofs.YtojpjaifhjigfaaGreatDoor.opened c rs, dead := dead }
/-- What the document's Open leaves. -/
def RefMadeG (c : Cfg) (m : Option Nat) (D : DataW Unit) (rs : List RBat) (dead : List Nat) (w : World) (e : Ending) (w' : World) : Prop := ∃ g ss L0, e = .returned (.pointer (some ⟨g, 0, none⟩)) ∧ RefAt w' L0 0 g (Rf.opened c m D ss rs dead) ∧ (∀ k l, L0 k = some l → w.heap.size ≤ k ∧ k < w'.heap.size) ∧ ss.Perm (strKeys D) ∧ ss.Pairwise (fun a b => a ≤ b) ∧ Below w.heap.size w w'

/-- Labels for the agent's parts, over those of its destinations. -/
def refLabsG (L : Labs) (G : Nat) (nv qv bv dv : Value) : Labs := fun k => if k = G then some (0, .ag) else if nv.ownBlock = some k then some (0, .nm) else if qv.ownBlock = some k then some (0, .rt) else if bv.ownBlock = some k then some (0, .tk) else if dv.ownBlock = some k then some (0, .dd) else L k
theorem refMadeG_at {w w1 W3 wr : World} {L2 : Labs} {G lk Wz Ws nb nd : Nat} {c : Cfg} {m : Option Nat} {D : DataW Unit} {ss : List (List UInt8)} {rs : List RBat} {dead : List Nat} {nv qv bv dv : Value} {la : Option Addr} {qs xs : List Value} (hag : Blk wr G (refCells c m nv qv bv dv (.slice la c.d.toNat lk) 0) 109) (hT : Texts w1 w.heap.size nv ss) (hG : w1.heap.size = G) (hnx : Below G w1 wr)
    (hq : W3.ownsRow (G + 1) 3 1 qv ss.length qs) (hqs : qs = intsI (ss.map (qOf D))) (hqz : ∀ g, qv.ownBlock = some g → g < Wz) (hx : W3.ownsRow Wz 112 8 bv nb xs) (hxs : xs = (opened c rs).flatMap RBat.cells) (hxz : ∀ g, bv.ownBlock = some g → g < Ws) (hd : W3.ownsRow Ws 3 1 dv nd (ints dead)) (hrl : rs.length = nb) (hdl : dead.length = nd) (hGz : G < Wz) (hzs : Wz ≤ Ws) (hs3 : Ws ≤ W3.heap.size)
    (hst : ∀ q, q < W3.heap.size → q ≠ G → wr.heap[q]? = W3.heap[q]?) (hzz : W3.heap.size ≤ wr.heap.size) (hLn : LinesAt wr L2 0 (.slice la c.d.toNat lk) (List.replicate c.d.toNat (newL ss.length))) (hLb : LineLabs L2 W3.heap.size wr.heap.size) (hwG : w.heap.size ≤ G) :
    RefAt wr (refLabsG L2 G nv qv bv dv) 0 G (Rf.opened c m D ss rs dead) ∧ ∀ k l, refLabsG L2 G nv qv bv dv k = some l → w.heap.size ≤ k ∧ k < wr.heap.size := by
  have hn : ∀ g, nv.ownBlock = some g → w.heap.size ≤ g ∧ g < G := fun g hg => by have := hT.lt g hg; omega
  have hqb : ∀ g, qv.ownBlock = some g → G + 1 ≤ g ∧ g < Wz := fun g hg => ⟨(hq.lt g hg).1, hqz g hg⟩
  have hxb : ∀ g, bv.ownBlock = some g → Wz ≤ g ∧ g < Ws := fun g hg => ⟨(hx.lt g hg).1, hxz g hg⟩
  have hdb : ∀ g, dv.ownBlock = some g → Ws ≤ g ∧ g < W3.heap.size := fun g hg => hd.lt g hg
  have hgl := hag.lt
  refine ⟨⟨nv, qv, bv, dv, la, lk, ⟨hag, by simp [refLabsG]⟩, ⟨ownsRow_same hT (fun g hg => hnx.block g (hn g hg).2) (Nat.zero_le _), fun g hg => ?_⟩, ⟨?_, fun g hg => ?_⟩, ⟨?_, fun g hg => ?_⟩, ⟨?_, fun g hg => ?_⟩, ?_, by simp [Rf.opened, Rf.new]⟩, fun k l hk => ?_⟩
  · have := hn g hg
    simp only [refLabsG]
    rw [if_neg (by omega), if_pos hg]
  · show wr.ownsRow 0 112 8 bv (opened c rs).length ((opened c rs).flatMap RBat.cells)
    rw [← hxs, show (opened c rs).length = nb by simp [opened, hrl]]
    exact ownsRow_same hx (fun g hg => hst g (by have := hxb g hg; omega) (by have := hxb g hg; omega)) (Nat.zero_le _)
  · have h1 := hxb g hg
    simp only [refLabsG]
    rw [if_neg (by omega), if_neg (fun e => by have := hn g e; omega), if_neg (fun e => by have := hqb g e; omega), if_pos hg]
  · show wr.ownsRow 0 3 1 dv dead.length (ints dead)
    rw [hdl]
    exact ownsRow_same hd (fun g hg => hst g (hdb g hg).2 (by have := hdb g hg; omega)) (Nat.zero_le _)
  · have h1 := hdb g hg
    simp only [refLabsG]
    rw [if_neg (by omega), if_neg (fun e => by have := hn g e; omega), if_neg (fun e => by have := hqb g e; omega), if_neg (fun e => by have := hxb g e; omega), if_pos hg]
  · show wr.ownsRow 0 3 1 qv (ss.map (qOf D)).length (intsI (ss.map (qOf D)))
    rw [← hqs, List.length_map]
    exact ownsRow_same hq (fun g hg => hst g (hq.lt g hg).2 (by have := (hqb g hg).1; omega)) (Nat.zero_le _)
  · have h1 := hqb g hg
    simp only [refLabsG]
    rw [if_neg (by omega), if_neg (fun e => by have := hn g e; omega), if_pos hg]
  · refine hLn.relab (fun k l hk => ?_)
    have h1 := (hLb k l hk).2.1
    simp only [refLabsG]
    rw [if_neg (by omega), if_neg (fun e => by have := hn k e; omega), if_neg (fun e => by have := hqb k e; omega), if_neg (fun e => by have := hxb k e; omega), if_neg (fun e => by have := hdb k e; omega), hk]
  · simp only [refLabsG] at hk
    by_cases e1 : k = G
    · omega
    · rw [if_neg e1] at hk
      by_cases e2 : nv.ownBlock = some k
      · have := hn k e2; omega
      · rw [if_neg e2] at hk
        by_cases e3 : qv.ownBlock = some k
        · have := hqb k e3; omega
        · rw [if_neg e3] at hk
          by_cases e4 : bv.ownBlock = some k
          · have := hxb k e4; omega
          · rw [if_neg e4] at hk
            by_cases e5 : dv.ownBlock = some k
            · have := hdb k e5; omega
            · rw [if_neg e5] at hk
              have := hLb k l hk
              omega

theorem addr_add0 (g j : Nat) : (⟨g, 0, none⟩ : Addr).add j = ⟨g, j, none⟩ := by unfold Addr.add; split <;> simp_all
/-- Behind the dead ones. -/
structure DeadPut (G : Nat) (w1 wr : World) (cells : Array Value) (dv : Value) (nd : Nat) (dead : List Nat) (wx : World) : Prop where
  row : wx.ownsRow wr.heap.size 3 1 dv nd (ints dead)
  blk : Blk wx G cells 109
  below : Below G w1 wx
  size : wr.heap.size ≤ wx.heap.size
  same : ∀ q, q < wr.heap.size → q ≠ G → wx.heap[q]? = wr.heap[q]?

set_option maxRecDepth 100000 in
set_option maxHeartbeats 4000000 in
theorem refOpenG_any (c : Cfg) (m : Option Nat) (D : DataW Unit) (ba da : Option Addr) (nb bk nd dk : Nat) (rs : List RBat) (dead : List Nat) (w : World) (h : MapAt w m D) (hd0 : 1 ≤ c.d) (hd1 : c.d ≤ 4) (hrs : w.ownsRow 0 112 8 (.slice ba nb bk) nb (rs.flatMap RBat.cells)) (hrl : rs.length = nb) (hnb : nb ≤ 120) (hdr : w.ownsRow 0 3 1 (.slice da nd dk) nd (ints dead)) (hnd : nd ≤ 120) (hdn : nd = 0 → da = none ∧ dk = 0) :
    Calls Tryz.prog 43 #[c.val m, .slice ba nb bk, .slice da nd dk] w fun e w' => RefMadeG c m D rs dead w e w' := by
  have H := hide h
  have HRs := hide hrs
  have HDr := hide hdr
  have Hdn := hide hdn
  have Hrl := hide hrl
  have e0 := (Blk.new w (c.cells m) 25).cell
  have hB0 : Hid (Below w.heap.size w (w.alloc (.cells (c.cells m) 25))) := (Below.refl _ _).alloc (Nat.le_refl _) _
  clear h e0 hrs hdr hdn hrl
  go_enter Tryz.func43, Tryz.ntmps43
  go_wp2_with fail
  generalize hV : World.alloc w _ = V
  have hK : Blk V w.heap.size (c.cells m) 25 := by rw [← hV]; exact Blk.new w _ _
  have hz : V.heap.size = w.heap.size + 1 := by rw [← hV]; simp
  have HV : Hid (MapAt V m D) := by rw [← hV]; exact H.out.alloc _
  rw [hV] at hB0
  obtain ⟨e0, e1, e2, e3, e4, e5, e6, e7, e8, e9, e10⟩ : V.cell? ⟨w.heap.size, 0, none⟩ = some (.int .i64 c.d) ∧ V.cell? ⟨w.heap.size, 1, none⟩ = some (.map (m)) ∧ V.cell? ⟨w.heap.size, 2, none⟩ = some (.int .i64 c.q) ∧ V.cell? ⟨w.heap.size, 3, none⟩ = some (.int .i64 c.at') ∧ V.cell? ⟨w.heap.size, 4, none⟩ = some (.int .i64 c.ba) ∧ V.cell? ⟨w.heap.size, 5, none⟩ = some (.int .i64 c.ca) ∧ V.cell? ⟨w.heap.size, 6, none⟩ = some (.int .i64 c.ti) ∧ V.cell? ⟨w.heap.size, 7, none⟩ = some (.int .i64 c.wi) ∧ V.cell? ⟨w.heap.size, 8, none⟩ = some (.int .i64 c.le) ∧ V.cell? ⟨w.heap.size, 9, none⟩ = some (.float .f64 c.th) ∧ V.cell? ⟨w.heap.size, 10, none⟩ = some (.int .i64 c.op) := ⟨hK.cell 0, hK.cell 1, hK.cell 2, hK.cell 3, hK.cell 4, hK.cell 5, hK.cell 6, hK.cell 7, hK.cell 8, hK.cell 9, hK.cell 10⟩
  have HK := hide hK
  have hlt : w.heap.size < V.heap.size := by omega
  clear hV hK
  go_region_held3 (fun w' => w'.cell? ⟨w.heap.size, 0, none⟩ = some (.int .i64 c.d) ∧ w'.cell? ⟨w.heap.size, 1, none⟩ = some (.map (m)) ∧ w'.cell? ⟨w.heap.size, 2, none⟩ = some (.int .i64 c.q) ∧ w'.cell? ⟨w.heap.size, 3, none⟩ = some (.int .i64 c.at') ∧ w'.cell? ⟨w.heap.size, 4, none⟩ = some (.int .i64 c.ba) ∧ w'.cell? ⟨w.heap.size, 5, none⟩ = some (.int .i64 c.ca) ∧ w'.cell? ⟨w.heap.size, 6, none⟩ = some (.int .i64 c.ti) ∧ w'.cell? ⟨w.heap.size, 7, none⟩ = some (.int .i64 c.wi) ∧ w'.cell? ⟨w.heap.size, 8, none⟩ = some (.int .i64 c.le) ∧ w'.cell? ⟨w.heap.size, 9, none⟩ = some (.float .f64 c.th) ∧ w'.cell? ⟨w.heap.size, 10, none⟩ = some (.int .i64 c.op)) (go_keep)
    (first
      | (go_at_call 78; refine (refNames_any m D _ (HV.out.below (below_drewN (Below.refl V.heap.size V) 1) (Nat.le_refl _))).mono ?_; rintro e w1 ⟨nv, ss, rfl, hT, hP, hSr, hb1⟩; obtain ⟨na, nk, rfl⟩ := hT.shape; have hc1 := fun o => hb1.cell (p := ⟨w.heap.size, o, none⟩) hlt; have Hb1 := hide hb1; have HT := hide hT; have HP := hide hP; have HSr := hide hSr; have hz1 : V.heap.size ≤ w1.heap.size := hb1.size; clear hb1 hT hP hSr))
  go_wp2_with fail
  generalize hW : World.alloc w1 _ = W
  have hA : Blk W w1.heap.size (refCells c m (.slice na ss.length nk) (.slice none 0 0) (.slice none 0 0) (.slice none 0 0) (.slice none 0 0) 0) 109 := by rw [← hW]; exact Blk.new w1 _ _
  have hbW : Below w1.heap.size w1 W := by rw [← hW]; exact (Below.refl _ _).alloc (Nat.le_refl _) _
  have hb1 : Below w.heap.size w w1 := (below_drewN hB0.out 1).trans (Hb1.out.mono (show w.heap.size ≤ V.heap.size by omega))
  have HK1 : Hid (Blk w1 w.heap.size (c.cells m) 25) := (HK.out.drewN 1).below Hb1.out hlt
  have HM1 : Hid (MapAt w1 m D) := HV.out.below (w' := w1) ((below_drewN (Below.refl V.heap.size V) 1).trans Hb1.out) (Nat.le_refl _)
  have HA := hide hA
  have HbW := hide hbW
  have HB1 := hide hb1
  have hGs : w.heap.size < w1.heap.size := by omega
  have hbig : (ss.length : Int) ≤ 8796093022208 := by
    rcases H.out with ⟨_, rfl⟩ | ⟨b, n, _, h2, h3⟩
    · have := HP.out.length_eq; rw [show (strKeys (.map [] : DataW Unit)).length = 0 from rfl] at this; omega
    · have := HP.out.length_eq; rw [size_strKeys h2] at this; have := h2.size_le; unfold big at h3; omega
  have HT1 : Hid (Texts w1 w.heap.size (.slice na ss.length nk) ss) := HT.out.mono_base (by show w.heap.size ≤ V.heap.size; omega)
  clear hW hA hbW hb1 hc1 e0 e1 e2 e3 e4 e5 e6 e7 e8 e9 e10
  generalize hG : w1.heap.size = G at *
  have HGe := hide hG
  clear hG
  go_loopw [8] (fun i wr => ∃ (k : Nat) (qa : Option Addr) (qk : Nat) (qs : List Value), k ≤ ss.length ∧ i = .int .i64 k ∧ wr.ownsRow (G + 1) 3 1 (.slice qa k qk) k qs ∧ qs = intsI ((ss.take k).map (qOf D)) ∧
      Blk wr G (refCells c m (.slice na ss.length nk) (.slice qa k qk) (.slice none 0 0) (.slice none 0 0) (.slice none 0 0) 0) 109 ∧ Below G w1 wr) (fun i _ => ss.length - (intOf i).toNat)
  case atStart => exact ⟨0, none, 0, [], Nat.zero_le _, rfl, ⟨rfl, Or.inl ⟨rfl, rfl⟩⟩, rfl, HA.out, HbW.out⟩
  case round =>
    obtain ⟨k, qa, qk, qs, hk, rfl, hq, hqs, hag, hnx⟩ := hrel
    have Hqs := hide hqs
    clear hqs
    have Hq := hide hq
    have Hag := hide hag
    have Hnx := hide hnx
    have hGw : G < wr.heap.size := hag.lt
    have a11 : wr.cell? ⟨G, 11, none⟩ = some (.slice na ss.length nk) := hag.cell 11
    by_cases hlt2 : k < ss.length
    · have hltI : (k : Int) < (ss.length : Int) := by omega
      obtain ⟨g0, rfl, hR, hg0⟩ := HT1.out.head (by omega)
      have hg0G : g0 < G := by obtain ⟨cur, hc, _⟩ := hR; have := hc.lt; have := HGe.out; omega
      have hck : wr.cell? ⟨g0, k, none⟩ = some (encStr (ss[k]'hlt2)) := by rw [hnx.cell (p := ⟨g0, k, none⟩) hg0G]; exact hR.cell k hlt2
      have hc1 : wr.cell? ⟨w.heap.size, 1, none⟩ = some (.map m) := by rw [hnx.cell (p := ⟨w.heap.size, 1, none⟩) hGs]; exact HK1.out.cell 1
      have a12 : wr.cell? ⟨G, 12, none⟩ = some (.slice qa k qk) := hag.cell 12
      have f12 : wr.frozen? ⟨G, 12, none⟩ = false := hag.frozen 12
      obtain ⟨b, n, rfl, hown⟩ : ∃ b n, m = some b ∧ OM w1 b n D := by
        rcases HM1.out with ⟨_, rfl⟩ | ⟨b, n, h1, h2, _⟩
        · have := HP.out.length_eq; rw [show (strKeys (.map [] : DataW Unit)).length = 0 from rfl] at this; omega
        · exact ⟨b, n, h1, h2⟩
      have hin : ss[k] ∈ strKeys D := HP.out.mem_iff.1 (List.getElem_mem hlt2)
      obtain ⟨q, hAt, hlook⟩ := look_at hown ((mem_strKeys hown _).1 hin)
      have hbG : b < G := by have := hown.lt; have := HGe.out; omega
      have hlk := hlook wr.drew n (om_below hown Hnx.out hbG).drew
      have hlk2 := fun o => hlook (wr.drew.alloc o) n ((om_below hown Hnx.out hbG).drew.alloc o)
      obtain ⟨i0, hi, hz0, hz1, hz2⟩ := info_parts infoInt
      have HQe : Hid (qs ++ [.int .i64 q] = intsI ((ss.take (k + 1)).map (qOf D))) := by
        show _ = _
        rw [Hqs.out, List.take_succ_eq_append_getElem hlt2, List.map_append]
        simp [intsI, qOf_at hAt]
      clear hR hown hin hlook hAt hnx hag
      generalize hx : ss[k]'hlt2 = x at *
      clear hx
      go_wp2_with fail
      go_region_law (refine step_append_lies _ (by rfl) _ _ _ (by rfl) (G + 1) 3 i0 _ 1 8 Tryz.underlying51 hi hz0 hz1 hz2 rfl (by omega) (.slice qa k qk) k qs (by rfl) ((hq.alloc _).drew) ⟨wr.heap.size, 0, none⟩ 1 1 [.int .i64 q] (by rfl) (by rfl) (World.news_of_block (cs := #[.int .i64 q]) (t := 3) (fr := (0, 0)) (heap_alloc_new wr _)) (by simp [Value.oneCell']) (by omega) (by unfold maxLen; omega) (by omega) (by simp; omega) (wr.heap.size + 1) (by simp) ?_; intro gg cap w2 hown2 hgrow hat hlt3; have hBk := Blk.grown (w := World.drew (World.alloc wr _)) (Hag.out.alloc _) hgrow (fun e => absurd (hq.lt G e.symm).1 (by omega)); have c12 := hBk.cell 12; have f12' := hBk.frozen 12; simp at c12; have HBk := hide hBk; clear hBk)
      all_goals
        have hB2 : Below G w1 w2 := ((Hnx.out.alloc (by omega) _).drew).grown hgrow (by simp; omega) (fun j hj => by have := (hq.lt j hj).1; omega)
        have Hown2 := hide hown2
        have HB2 := hide hB2
        clear hown2 hB2 hgrow hat hq c12 f12' hlk hlk2 hck hc1 a12 f12 a11
        go_wp2_with fail
        go_roundw
        case rel => exact ⟨k + 1, _, _, _, by omega, by go_num, ownsRow_setCell_below Hown2.out (by simp) _, HQe.out, HBk.out.set 12 _, HB2.out.setCell (by simp) _⟩
        case measure => simp [intOf]; omega
    · obtain rfl : k = ss.length := by omega
      have Hq0 := hide hq
      clear hq hag hnx
      obtain ⟨Wq, HWq⟩ : ∃ Wq, Hid (Wq = wr) := ⟨_, rfl⟩
      have hqz : G < Wq.heap.size := by rw [HWq.out]; exact hGw
      have HQq : Hid (Wq.ownsRow (G + 1) 3 1 (.slice qa ss.length qk) ss.length qs) := by rw [HWq.out]; exact Hq0.out
      go_wp2_with fail
      go_loopw [9, 10] (fun i _ wx => ∃ (k : Nat) (xa : Option Addr) (xk : Nat), k ≤ nb ∧ i = .int .i64 k ∧ wx.ownsRow Wq.heap.size 112 8 (.slice xa k xk) k ((opened c (rs.take k)).flatMap RBat.cells) ∧
          Blk wx G (refCells c m (.slice na ss.length nk) (.slice qa ss.length qk) (.slice xa k xk) (.slice none 0 0) (.slice none 0 0) 0) 109 ∧ Below G w1 wx ∧ Wq.heap.size ≤ wx.heap.size ∧ ∀ q, q < Wq.heap.size → q ≠ G → wx.heap[q]? = Wq.heap[q]?) (fun i _ _ => nb - (intOf i).toNat)
      case atStart => exact ⟨0, none, 0, Nat.zero_le _, rfl, ⟨rfl, Or.inl ⟨rfl, rfl⟩⟩, Hag.out, Hnx.out, by rw [HWq.out]; exact Nat.le_refl _, fun _ _ _ => by rw [HWq.out]⟩
      case round =>
        obtain ⟨k, xa, xk, hk, rfl, hxr, hag, hnx, hzz, hst⟩ := hrel
        have Hxr := hide hxr
        have Hag := hide hag
        have Hnx2 := hide hnx
        have Hst := hide hst
        have hGx : G < wr.heap.size := hag.lt
        clear a11
        by_cases hlt3 : k < nb
        · have hltI : (k : Int) < (nb : Int) := by omega
          obtain ⟨gb, eba, hgb, _, hcb, _⟩ := (show RowAt w (fun _ => none) none 112 8 (.slice ba nb bk) nb (rs.flatMap RBat.cells) from ⟨HRs.out, fun _ _ => rfl⟩).head (by omega)
          subst eba
          obtain ⟨r, hr⟩ : ∃ r, rs[k]? = some r := ⟨_, List.getElem?_eq_getElem (by rw [Hrl.out]; exact hlt3)⟩
          have hBw : Below w.heap.size w wr := HB1.out.trans (Hnx2.out.mono (by omega))
          have hcw : ∀ j v, r.cells[j]? = some v → wr.cell? ⟨gb, k * 8 + j, none⟩ = some v := fun j v hv => (hBw.cell (p := ⟨gb, _, none⟩) hgb).trans (hcb _ _ (RBat.cell hr (by have := (List.getElem?_eq_some_iff.1 hv).1; rw [RBat.cells_length] at this; exact this) hv))
          have x0 : wr.cell? ⟨gb, k * 8, none⟩ = some (.int .i64 r.b.dst) := hcw 0 _ rfl
          have x1 : wr.cell? ⟨gb, k * 8 + 1, none⟩ = some (encStr r.b.ten) := hcw 1 _ rfl
          have x2 : wr.cell? ⟨gb, k * 8 + 2, none⟩ = some (encStr r.b.id) := hcw 2 _ rfl
          have x3 : wr.cell? ⟨gb, k * 8 + 3, none⟩ = some (encStr r.b.body) := hcw 3 _ rfl
          have x4 : wr.cell? ⟨gb, k * 8 + 4, none⟩ = some (.int .i64 r.b.st) := hcw 4 _ rfl
          have x5 : wr.cell? ⟨gb, k * 8 + 5, none⟩ = some (.int .i64 r.b.fl) := hcw 5 _ rfl
          have x6 : wr.cell? ⟨gb, k * 8 + 6, none⟩ = some (.int .i64 r.pa) := hcw 6 _ rfl
          have x7 : wr.cell? ⟨gb, k * 8 + 7, none⟩ = some (.int .i64 r.af) := hcw 7 _ rfl
          have hgbw : gb < wr.heap.size := by have := hBw.size; omega
          have hc4 : wr.cell? ⟨w.heap.size, 4, none⟩ = some (.int .i64 c.ba) := by rw [hnx.cell (p := ⟨w.heap.size, 4, none⟩) hGs]; exact HK1.out.cell 4
          have hwsz : w.heap.size < wr.heap.size := by omega
          obtain ⟨i1, hi1, hy0, hy1, hy2⟩ := info_parts infoRefBatch3
          obtain ⟨r', hr'⟩ : ∃ r' : RBat, r' = ⟨r.b, c.ba, 0⟩ := ⟨_, rfl⟩
          have Hr' := hide hr'
          have HNx : Hid ((opened c (rs.take k)).flatMap RBat.cells ++ r'.cells = (opened c (rs.take (k + 1))).flatMap RBat.cells) := by
            obtain ⟨hkl, e⟩ := List.getElem?_eq_some_iff.1 hr
            show _ = _
            rw [List.take_succ_eq_append_getElem hkl, e]
            simp [opened, List.flatMap_append, hr']
          clear hcb hr hcw hag hnx hxr hst hBw hr'
          go_upto_region 12 with fail
          generalize hY : World.alloc wr _ = Y
          have hKY : Blk Y wr.heap.size #[.int .i64 r.b.dst, encStr r.b.ten, encStr r.b.id, encStr r.b.body, .int .i64 r.b.st, .int .i64 r.b.fl, .int .i64 c.ba, .int .i64 0] 112 := by rw [← hY]; exact Blk.new wr _ _
          have hbY : Below wr.heap.size wr Y := by rw [← hY]; exact (Below.refl _ _).alloc (Nat.le_refl _) _
          have hYs := hbY.size
          have y0 : Y.cell? ⟨wr.heap.size, 0, none⟩ = some (.int .i64 r.b.dst) := hKY.cell 0
          have y1 : Y.cell? ⟨wr.heap.size, 1, none⟩ = some (encStr r.b.ten) := hKY.cell 1
          have y2 : Y.cell? ⟨wr.heap.size, 2, none⟩ = some (encStr r.b.id) := hKY.cell 2
          have y3 : Y.cell? ⟨wr.heap.size, 3, none⟩ = some (encStr r.b.body) := hKY.cell 3
          have y4 : Y.cell? ⟨wr.heap.size, 4, none⟩ = some (.int .i64 r.b.st) := hKY.cell 4
          have y5 : Y.cell? ⟨wr.heap.size, 5, none⟩ = some (.int .i64 r.b.fl) := hKY.cell 5
          have y6 : Y.cell? ⟨wr.heap.size, 6, none⟩ = some (.int .i64 c.ba) := hKY.cell 6
          have y7 : Y.cell? ⟨wr.heap.size, 7, none⟩ = some (.int .i64 0) := hKY.cell 7
          have hylt := hKY.lt
          have hagY := Hag.out.below hbY hGx
          have z13 : Y.cell? ⟨G, 13, none⟩ = some (.slice xa k xk) := hagY.cell 13
          have HagY := hide hagY
          have hGY := hagY.lt
          have HxY : Hid (Y.ownsRow Wq.heap.size 112 8 (.slice xa k xk) k ((opened c (rs.take k)).flatMap RBat.cells)) := ownsRow_same Hxr.out (fun q hq => hbY.block q (Hxr.out.lt q hq).2) (Nat.le_refl _)
          have hxg : some G ≠ (Value.slice xa k xk).ownBlock := fun e => by have := (Hxr.out.lt G e.symm).1; omega
          have HEnd : Hid (∀ g2 cap2 (w2 : World), w2.ownsRow Wq.heap.size 112 8 (.slice (some ⟨g2, 0, none⟩) (k + 1) cap2) (k + 1) ((opened c (rs.take k)).flatMap RBat.cells ++ r'.cells) → (Y.alloc (.cells r'.cells.toArray 112)).drew.grownBy w2 (Value.slice xa k xk).ownBlock →
              (w2.cell? ⟨G, 13, none⟩ = some (.slice xa k xk) ∧ w2.frozen? ⟨G, 13, none⟩ = false) ∧ ((w2.setCell ⟨G, 13, none⟩ (.slice (some ⟨g2, 0, none⟩) (k + 1) cap2)).ownsRow Wq.heap.size 112 8 (.slice (some ⟨g2, 0, none⟩) (k + 1) cap2) (k + 1) ((opened c (rs.take (k + 1))).flatMap RBat.cells) ∧ Blk (w2.setCell ⟨G, 13, none⟩ (.slice (some ⟨g2, 0, none⟩) (k + 1) cap2)) G (refCells c m (.slice na ss.length nk) (.slice qa ss.length qk) (.slice (some ⟨g2, 0, none⟩) (k + 1) cap2) (.slice none 0 0) (.slice none 0 0) 0) 109 ∧ Below G w1 (w2.setCell ⟨G, 13, none⟩ (.slice (some ⟨g2, 0, none⟩) (k + 1) cap2)) ∧ Wq.heap.size ≤ (w2.setCell ⟨G, 13, none⟩ (.slice (some ⟨g2, 0, none⟩) (k + 1) cap2)).heap.size ∧ ∀ q, q < Wq.heap.size → q ≠ G → (w2.setCell ⟨G, 13, none⟩ (.slice (some ⟨g2, 0, none⟩) (k + 1) cap2)).heap[q]? = Wq.heap[q]?)) := fun g2 cap2 w2 a1 a2 => by
            have hBk : Blk w2 G _ 109 := Blk.grown (w := (Y.alloc (.cells r'.cells.toArray 112)).drew) (HagY.out.alloc _) a2 hxg
            have hB2 : Below G w1 w2 := (((Hnx2.out.trans (hbY.mono (by omega))).alloc (by omega) _).drew).grown a2 (by simp; omega) (fun q hq => by have := (HxY.out.lt q hq).1; omega)
            refine ⟨⟨hBk.cell 13, hBk.frozen 13⟩, ?_, ?_, hB2.setCell (Nat.le_refl _) _, ?_, fun q hq hne => ?_⟩
            · rw [← HNx.out]
              exact ownsRow_setCell_below a1 (by show G < Wq.heap.size; omega) _
            · have := hBk.set 13 (.slice (some ⟨g2, 0, none⟩) (k + 1) cap2)
              rw [refCells_set13] at this
              exact this
            · have := a2.size
              simp [World.setCell] at this ⊢
              omega
            · rw [heap_setCell_other _ _ _ _ hne, a2.block q (by simp; omega) (fun e => by have := (HxY.out.lt q e.symm).1; omega)]
              show (Y.alloc _).heap[q]? = _
              rw [Below.heap_alloc _ _ _ (by omega), hbY.block q (by omega)]
              exact Hst.out q hq hne
          clear hY hKY hbY hagY x0 x1 x2 x3 x4 x5 x6 x7 hc4
          go_region_law (refine step_append_lies _ (by rfl) _ _ _ (by rfl) Wq.heap.size 112 i1 _ 8 88 Tryz.underlying103 hi1 hy0 hy1 hy2 rfl (by omega) (.slice xa k xk) k _ (by rfl) ((HxY.out.alloc _).drew) ⟨Y.heap.size, 0, none⟩ 1 1 r'.cells (by rfl) (by rfl) (World.news_of_block (cs := r'.cells.toArray) (t := 112) (fr := (0, 0)) (by rw [Hr'.out]; exact heap_alloc_new Y _)) (by rw [Hr'.out]; simp [RBat.cells, Bat.cells, Value.oneCell', encStr]) (by omega) (by unfold maxLen; omega) (by omega) (by simp; omega) (Y.heap.size + 1) (by simp) ?_; intro g2 cap2 w2 hown2 hg2 hat2 hlt2; have HE := hide (HEnd.out g2 cap2 w2 hown2 (by rw [Hr'.out]; exact hg2)); obtain ⟨c13, f13⟩ := HE.out.1; clear hown2 hg2 hat2)
          all_goals
            clear y0 y1 y2 y3 y4 y5 y6 y7 z13 c13 f13
            go_wp2_with fail
            go_roundw
            case rel => exact ⟨k + 1, _, _, by omega, by go_num, HE.out.2.1, HE.out.2.2.1, HE.out.2.2.2.1, HE.out.2.2.2.2.1, HE.out.2.2.2.2.2⟩
            case measure => simp [intOf]; omega
        · obtain rfl : k = nb := by omega
          have HNe : Hid (opened c (rs.take k) = opened c rs) := by show _ = _; rw [List.take_of_length_le (by rw [Hrl.out]; exact Nat.le_refl _)]
          have c14 : wr.cell? ⟨G, 14, none⟩ = some (.slice none 0 0) := Hag.out.cell 14
          have f14 : wr.frozen? ⟨G, 14, none⟩ = false := Hag.out.frozen 14
          have Hdl : Hid (dead.length = nd) := by have := HDr.out.1; simp [ints] at this; exact this
          clear hag hnx hxr hst
          go_upto_region 13 with fail
          obtain ⟨i0, hi, hz0, hz1, hz2⟩ := info_parts infoInt
          have HEnd : Hid (∀ (ea : Option Addr) (ek : Nat) (w2 : World), w2.ownsRow wr.heap.size 3 1 (.slice ea nd ek) nd (ints dead) → wr.grownBy w2 none →
              (w2.cell? ⟨G, 14, none⟩ = some (.slice none 0 0) ∧ w2.frozen? ⟨G, 14, none⟩ = false) ∧ DeadPut G w1 wr (refCells c m (.slice na ss.length nk) (.slice qa ss.length qk) (.slice xa k xk) (.slice ea nd ek) (.slice none 0 0) 0) (.slice ea nd ek) nd dead (w2.setCell ⟨G, 14, none⟩ (.slice ea nd ek))) := fun ea ek w2 a1 a2 => by
            have hb2 : Below wr.heap.size wr w2 := (Below.refl _ _).grown a2 (Nat.le_refl _) (fun j hj => by cases hj)
            have hBk := Hag.out.below hb2 hGx
            refine ⟨⟨hBk.cell 14, hBk.frozen 14⟩, ownsRow_setCell_below a1 (by show G < wr.heap.size; exact hGx) _, ?_, ((Hnx2.out.trans (hb2.mono (by omega))).setCell (Nat.le_refl _) _), ?_, fun q hq hne => ?_⟩
            · have := hBk.set 14 (.slice ea nd ek)
              rw [refCells_set14] at this
              exact this
            · have := hb2.size
              simp [World.setCell] at this ⊢
              omega
            · rw [heap_setCell_other _ _ _ _ hne, hb2.block q hq]
          go_cut [] (fun wx => ∃ (ea : Option Addr) (ek : Nat), DeadPut G w1 wr (refCells c m (.slice na ss.length nk) (.slice qa ss.length qk) (.slice xa k xk) (.slice ea nd ek) (.slice none 0 0) 0) (.slice ea nd ek) nd dead wx)
          case first =>
            by_cases hnd0 : nd = 0
            · obtain ⟨rfl, rfl⟩ := Hdn.out hnd0
              subst hnd0
              have hd0 : dead = [] := List.eq_nil_of_length_eq_zero Hdl.out
              have hrow : wr.ownsRow 0 3 1 (.slice none 0 0) 0 [] := ⟨rfl, Or.inl ⟨rfl, rfl⟩⟩
              have HE := hide (HEnd.out none 0 wr ⟨by rw [hd0]; rfl, Or.inl ⟨rfl, rfl⟩⟩ ⟨rfl, rfl, rfl, Nat.le_refl _, fun _ _ _ => rfl⟩)
              go_wp2_with (first
                | (at_builtin; refine wpList_append_own_none rfl _ _ 51 rfl 0 3 i0 1 Tryz.underlying51 hi _ 0 [] rfl hrow rfl ?_; simp only [Act.put, List.setIfInBounds_toArray, List.set_cons_succ, List.set_cons_zero])
                | fail)
              go_meet
              exact ⟨none, 0, HE.out.2⟩
            · obtain ⟨gd, eda, hgd, _, hcd, _⟩ := (show RowAt w (fun _ => none) none 3 1 (.slice da nd dk) nd (ints dead) from ⟨HDr.out, fun _ _ => rfl⟩).head (by omega)
              subst eda
              have hBw : Below w.heap.size w wr := HB1.out.trans (Hnx2.out.mono (by omega))
              have HCd : Hid (∀ j u, (ints dead)[j]? = some u → wr.cell? ((⟨gd, 0, none⟩ : Addr).add j) = some u) := fun j u hu => by
                rw [addr_add0, hBw.cell (p := ⟨gd, j, none⟩) hgd]
                exact hcd j u hu
              have hrow : wr.ownsRow wr.heap.size 3 1 (.slice none 0 0) 0 [] := ⟨rfl, Or.inl ⟨rfl, rfl⟩⟩
              have hon : ∀ u ∈ ints dead, u.oneCell' = true := fun u hu => by obtain ⟨x, _, rfl⟩ := List.mem_map.1 hu; rfl
              clear hcd hBw
              go_wp2_with (first
                | (at_builtin; refine wpList_append_lies _ rfl _ _ 51 rfl wr.heap.size 3 i0 _ 1 8 Tryz.underlying51 hi hz0 hz1 hz2 rfl (by decide) (.slice none 0 0) 0 [] rfl hrow ⟨gd, 0, none⟩ nd dk (ints dead) rfl (by rw [show (ints dead).length = dead.length by simp [ints], Hdl.out]; omega) HCd.out hon (by omega) (by unfold maxLen; omega) (by omega) (Nat.le_refl _) wr.heap.size rfl ?_; intro g2 cap2 w2 hown2 hg2 hat2 hlt2; rw [Nat.zero_add] at hown2 ⊢; have HE := hide (HEnd.out _ cap2 w2 (by simpa using hown2) (by simpa [Value.ownBlock] using hg2)); obtain ⟨c14', f14'⟩ := HE.out.1; clear hown2 hg2 hat2; simp only [Act.put, List.setIfInBounds_toArray, List.set_cons_succ, List.set_cons_zero])
                | fail)
              go_meet
              exact ⟨_, _, HE.out.2⟩
          case rest =>
          obtain ⟨ea, ek, q1, q2, q3, q4, q5⟩ := hcut
          generalize hW3 : wc = W3 at *
          have HA3 := hide q2
          have HB3 := hide q3
          have HQ3 : Hid (W3.ownsRow (G + 1) 3 1 (.slice qa ss.length qk) ss.length qs) := ownsRow_same HQq.out (fun q hq => by have := HQq.out.lt q hq; rw [q5 q (by omega) (by omega), Hst.out q this.2 (by omega)]) (Nat.le_refl _)
          have HX3 : Hid (W3.ownsRow Wq.heap.size 112 8 (.slice xa k xk) k ((opened c (rs.take k)).flatMap RBat.cells)) := ownsRow_same Hxr.out (fun q hq => by have := Hxr.out.lt q hq; rw [q5 q this.2 (by omega)]) (Nat.le_refl _)
          have HQz : Hid (∀ g, (Value.slice qa ss.length qk).ownBlock = some g → g < Wq.heap.size) := fun g hg => (HQq.out.lt g hg).2
          obtain ⟨Ws, hWs⟩ : ∃ Ws, wr.heap.size = Ws := ⟨_, rfl⟩
          have HXz : Hid (∀ g, (Value.slice xa k xk).ownBlock = some g → g < Ws) := fun g hg => by rw [← hWs]; exact (Hxr.out.lt g hg).2
          have HD3 : Hid (W3.ownsRow Ws 3 1 (.slice ea nd ek) nd (ints dead)) := by rw [← hWs]; exact q1
          have hWw : Wq.heap.size ≤ Ws := by omega
          have hWs3 : Ws ≤ W3.heap.size := by omega
          have HXe : Hid ((opened c (rs.take k)).flatMap RBat.cells = (opened c rs).flatMap RBat.cells) := by show _ = _; rw [HNe.out]
          clear hW3 q1 q2 q3 q5 c14 f14 HEnd hzz hWs
          obtain ⟨d, hd⟩ : ∃ d : Nat, c.d = d := ⟨c.d.toNat, by omega⟩
          have hd4 : d ≤ 4 := by omega
          have HD := hide hd
          clear hd
          have hG3 : G < W3.heap.size := HA3.out.lt
          go_wp2_with fail
          go_loopw [11] (fun i wq => ∃ (j : Nat) (la : Option Addr) (lk : Nat) (L2 : Labs), j ≤ d ∧ i = .int .i64 j ∧ LinesAt wq L2 0 (.slice la j lk) (List.replicate j (newL ss.length)) ∧ LineLabs L2 W3.heap.size wq.heap.size ∧
              Blk wq G (refCells c m (.slice na ss.length nk) (.slice qa ss.length qk) (.slice xa k xk) (.slice ea nd ek) (.slice la j lk) 0) 109 ∧ Below G w1 wq ∧ W3.heap.size ≤ wq.heap.size ∧ ∀ q, q < W3.heap.size → q ≠ G → wq.heap[q]? = W3.heap[q]?) (fun i _ => d - (intOf i).toNat)
          case atStart => exact ⟨0, none, 0, fun _ => none, Nat.zero_le _, rfl, ⟨[], rfl, RowAt.nil _ _ _ _ _, fun i o f ho => by simp at ho⟩, fun k l h => (by cases h), HA3.out, HB3.out, Nat.le_refl _, fun _ _ _ => rfl⟩
          case round =>
            obtain ⟨j, la, lk, L2, hj, rfl, hLn, hLb, hag, hnx, hzz, hst⟩ := hrel
            have Hag4 := hide hag
            have Hnx4 := hide hnx
            have HLn := hide hLn
            have HLb := hide hLb
            have Hst := hide hst
            have hGw4 : G < wr.heap.size := hag.lt
            have hc0 : wr.cell? ⟨w.heap.size, 0, none⟩ = some (.int .i64 c.d) := by rw [hnx.cell (p := ⟨w.heap.size, 0, none⟩) hGs]; exact HK1.out.cell 0
            by_cases hjd : j < d
            · have hjI : (j : Int) < (d : Int) := by omega
              have hjc : (j : Int) < c.d := by rw [HD.out]; omega
              have b11 : wr.cell? ⟨G, 11, none⟩ = some (.slice na ss.length nk) := hag.cell 11
              have b15 : wr.cell? ⟨G, 15, none⟩ = some (.slice la j lk) := hag.cell 15
              have g15 : wr.frozen? ⟨G, 15, none⟩ = false := hag.frozen 15
              have hmk := fun w => run_make_row' (P := Tryz.prog) 51 3 (.int .i64 0) 8 Tryz.underlying51 infoInt rfl .i64 .i64 ss.length (by omega) (by omega) w
              have HMd := hide (made_part0 (List.replicate ss.length 0) ss.length (by simp))
              obtain ⟨fs, hfl, hrow, hall⟩ := hLn
              simp only [List.length_replicate] at hfl hrow
              have Hrow := hide hrow
              have Hall := hide hall
              have hGb : some G ≠ (Value.slice la j lk).ownBlock := fun e => by
                have := (hLb G _ (hrow.2 G e.symm)).2.1
                omega
              have HGb := hide hGb
              have Hfl := hide hfl
              obtain ⟨i1, hi1, hy0, hy1, hy2⟩ := info_parts infoLine
              have HEnd : Hid (∀ g2 cap2 (w2 : World), w2.ownsRow 0 159 9 (.slice (some ⟨g2, 0, none⟩) (j + 1) cap2) (j + 1) ((((List.replicate j (newL ss.length)).zip fs).flatMap fun p => lineCells p.1 p.2) ++ lineCells (newL ss.length) (.slice (some ⟨wr.heap.size, 0, none⟩) ss.length ss.length)) →
                  ((wr.alloc (.cells (madeCells #[.int .i64 0] ss.length) 3)).alloc (.cells (lineCells (newL ss.length) (.slice (some ⟨wr.heap.size, 0, none⟩) ss.length ss.length)).toArray 159)).drew.grownBy w2 (Value.slice la j lk).ownBlock → ((Value.slice la j lk).ownBlock = some g2 ∨ g2 = wr.heap.size + 1 + 1) →
                  ∃ L4, LinesAt (w2.setCell ⟨G, 15, none⟩ (.slice (some ⟨g2, 0, none⟩) (j + 1) cap2)) L4 0 (.slice (some ⟨g2, 0, none⟩) (j + 1) cap2) (List.replicate (j + 1) (newL ss.length)) ∧ LineLabs L4 W3.heap.size (w2.setCell ⟨G, 15, none⟩ (.slice (some ⟨g2, 0, none⟩) (j + 1) cap2)).heap.size ∧ W3.heap.size ≤ (w2.setCell ⟨G, 15, none⟩ (.slice (some ⟨g2, 0, none⟩) (j + 1) cap2)).heap.size ∧
                    ∀ q, q < W3.heap.size → q ≠ G → (w2.setCell ⟨G, 15, none⟩ (.slice (some ⟨g2, 0, none⟩) (j + 1) cap2)).heap[q]? = W3.heap[q]?) := fun g2 cap2 w2 a1 a2 a3 => by
                obtain ⟨L4, h1, h2⟩ := lines_append Hfl.out Hrow.out Hall.out HLb.out hzz (by unfold maxLen; omega) (by rw [HMd.out, part0_zero]; simp) a1 a2 a3
                have hL4 : L4 G = none := by
                  cases e : L4 G with
                  | none => rfl
                  | some l => have := (h2 G l e).2.1; omega
                refine ⟨L4, h1.keep (p := fun l => l = none) (Step.setCell _ _ _ _ hL4) (by simp) (by simp), ?_, ?_, fun q hq hne => ?_⟩
                · intro k l hk
                  have := h2 k l hk
                  simpa [World.setCell] using this
                · have := a2.size
                  simp [World.setCell] at this ⊢
                  omega
                · rw [heap_setCell_other _ _ _ _ hne, a2.block q (by simp; omega) (fun e => by have := (HLb.out q _ (Hrow.out.2 q e.symm)).2.1; omega)]
                  show ((wr.alloc _).alloc _).heap[q]? = _
                  rw [Below.heap_alloc _ _ _ (by simp; omega), Below.heap_alloc _ _ _ (by omega)]
                  exact Hst.out q hq hne
              clear hag hnx hrow hall hLb hst hGb
              go_wp2_with fail
              go_region_law (refine step_append_lies _ (by rfl) _ _ _ (by rfl) 0 159 i1 _ 9 88 Tryz.underlying107 hi1 hy0 hy1 hy2 rfl (by omega) (.slice la j lk) j _ (by rfl) (((Hrow.out.1.alloc _).alloc _).drew) ⟨wr.heap.size + 1, 0, none⟩ 1 1 [.int .i64 0, .int .i64 0, .bool false, .int .i64 0, .int .i64 0, .slice (some ⟨wr.heap.size, 0, none⟩) ss.length ss.length, .int .i64 0, .int .i64 (-1), .int .i64 0] (by rfl) (by rfl) (World.news_of_block (cs := #[.int .i64 0, .int .i64 0, .bool false, .int .i64 0, .int .i64 0, .slice (some ⟨wr.heap.size, 0, none⟩) ss.length ss.length, .int .i64 0, .int .i64 (-1), .int .i64 0]) (t := 159) (fr := (0, 0)) (Blk.made (by simp) _ _)) (by simp [Value.oneCell']) (by omega) (by unfold maxLen; omega) (by omega) (Nat.zero_le _) (wr.heap.size + 1 + 1) (by simp) ?_; intro gg cap w2 hown2 hgrow hat hlt3; have HE2 := hide (HEnd.out gg cap w2 hown2 hgrow hat); have hBk := Blk.grown (w := World.drew (World.alloc (World.alloc wr _) _)) ((Hag4.out.alloc _).alloc _) hgrow HGb.out; have hB2 : Below G w1 w2 := (((Hnx4.out.alloc (by omega) _).alloc (by simp; omega) _).drew).grown hgrow (by simp; omega) (fun q hq => by have := (HLb.out q _ (Hrow.out.2 q hq)).2.1; omega); have HB2 := hide hB2; have c15 : w2.cell? ⟨G, 15, none⟩ = some (.slice la j lk) := hBk.cell 15; have g15' := hBk.frozen 15; have HBk := hide hBk; clear hBk hB2 hown2 hgrow hat)
              all_goals
                clear b11 b15 g15 hmk
                go_wp2_with fail
                go_roundw
                case rel =>
                  obtain ⟨L4, r1, r2, r3, r4⟩ := HE2.out
                  exact ⟨j + 1, _, _, L4, by omega, by go_num, r1, r2, HBk.out.set 15 _, HB2.out.setCell (by simp) _, r3, r4⟩
                case measure => simp [intOf]; omega
            · have hjd' : ¬ (j : Int) < c.d := by rw [HD.out]; omega
              have hje : j = c.d.toNat := by rw [HD.out]; omega
              have Hje := hide hje
              clear hje hag hnx hLn hLb hst
              go_wp2_with fail
              go_ret
              obtain ⟨r1, r2⟩ := refMadeG_at (w := w) (rs := rs) (dead := dead) (by have := Hag4.out; rw [Hje.out] at this; exact this) HT1.out HGe.out Hnx4.out HQ3.out (by rw [Hqs.out, List.take_of_length_le (Nat.le_refl _)]) HQz.out HX3.out HXe.out HXz.out HD3.out Hrl.out Hdl.out hqz hWw hWs3 Hst.out hzz (by have := HLn.out; rw [Hje.out] at this; exact this) HLb.out (by omega)
              exact ⟨G, ss, _, rfl, r1, r2, HP.out, HSr.out, HB1.out.trans (Hnx4.out.mono (by omega))⟩
end Go.Proofs.YtojpjaifhjigfaaGreatDoor

/- Kept: a copy of what lasts. -/
namespace Go.Proofs.YtojpjaifhjigfaaGreatDoor
open Go.RowKit Go.Maps

theorem run_append_nil_zero {P : Program} (w : World) (t ty e : TypeId) (i : TypeInfo) (ht : P.underlying t = some (.slice e)) (hi : P.info? e = some i) (a : Option Addr) (c : Nat) : (Builtin.append_ #[t, t] ty #[.slice none 0 0, .slice a 0 c]).run P w = .ok (.slice none 0 0) w := by
  cases a
  · simp [Builtin.append_, run_underlying ht, sizeOf, typeInfo, hi, Builtin.lenOf, Builtin.firstCells]
  · simp [Builtin.append_, run_underlying ht, sizeOf, typeInfo, hi, Builtin.lenOf, Builtin.firstCells, loadCells, loadCellsFrom]

/-- append of a row onto nil. -/
theorem wpList_append_onto_nil {P : Program} (w : World) {ops : Array Oper} {rest : List Oper} {o : Oper} {a : Act} {Q : Exit → Act → World → Prop} (hg : o.guard = none) (s x : Operand) (t : TypeId)
    (hop : o.op = Op.call { callee := Callee.builtin Builtin.append, args := #[s, x], argTypes := #[t, t] }) (e : TypeId) (i : TypeInfo) (z : Value) (size bytes : Nat) (h1 : P.underlying t = some (.slice e)) (h2 : P.info? e = some i) (h3 : i.zero = some z) (h4 : i.size = size) (h5 : i.bytes = bytes) (h6 : z.cells.size = size) (h7 : 0 < size)
    (hs : a.eval s = .slice none 0 0) (ao : Option Addr) (n c : Nat) (xs : List Value) (hx : a.eval x = .slice ao n c) (hrow : w.ownsRow 0 e size (.slice ao n c) n xs) (hone : ∀ u ∈ xs, u.oneCell' = true) (b1 : n ≤ maxLen) (b2 : n * bytes ≤ 140737488355328)
    (hK : ∀ ea ek w', w'.ownsRow w.heap.size e size (.slice ea n ek) n xs → w.grownBy w' none → (n = 0 → ea = none ∧ ek = 0) → wpList P ops Q rest (a.put o.dst (.slice ea n ek)) w') :
    wpList P ops Q (o :: rest) a w := by
  by_cases hn : n = 0
  · subst hn
    refine wpList_plain hg fun K hK' => ?_
    have hrun := run_append_nil_zero (P := P) w t o.type e i h1 h2 ao c
    unfold Oper.wp
    simp [execOp, hop, resolve, invoke, builtin, hs, hx, hrun, Result.andThen]
    have hxs : xs = [] := List.eq_nil_of_length_eq_zero (by simpa using hrow.1)
    exact hK' _ _ (hK none 0 w ⟨by rw [hxs]; simp, Or.inl ⟨rfl, rfl⟩⟩ ⟨rfl, rfl, rfl, Nat.le_refl _, fun _ _ _ => rfl⟩ (fun _ => ⟨rfl, rfl⟩))
  · obtain ⟨g, eg⟩ : ∃ g, ao = some ⟨g, 0, none⟩ := by
      rcases hrow.2 with ⟨e', _⟩ | ⟨g, cap', cur, e', _⟩
      · simp at e'; omega
      · simp at e'; exact ⟨g, e'.1⟩
    subst eg
    refine wpList_append_lies w hg s x t hop w.heap.size e i z size bytes h1 h2 h3 h4 h5 h6 h7 (.slice none 0 0) 0 [] hs ⟨by simp, Or.inl ⟨rfl, rfl⟩⟩ ⟨g, 0, none⟩ n c xs hx hrow.1 (fun j u hu => ?_) hone (by omega) (by omega) (by rw [Nat.zero_add]; exact b2) (Nat.le_refl _) w.heap.size rfl (fun g2 cap2 w2 r1 r2 _ _ => ?_)
    · exact hrow.cells (by simp [Value.ownBlock]) j u hu
    · rw [Nat.zero_add] at r1 ⊢
      exact hK _ _ w2 (by simpa using r1) (by simpa [Value.ownBlock] using r2) (fun h => absurd h hn)

/-- What Kept leaves: two rows of one's own. -/
def KeptAt (w : World) (rs : List RBat) (dead : List Nat) (e : Ending) (w' : World) : Prop := ∃ ba bk da dk, e = .returned (.tuple #[.slice ba rs.length bk, .slice da dead.length dk]) ∧ w'.ownsRow w.heap.size 112 8 (.slice ba rs.length bk) rs.length (rs.flatMap RBat.cells) ∧ w'.ownsRow w.heap.size 3 1 (.slice da dead.length dk) dead.length (ints dead) ∧ (dead.length = 0 → da = none ∧ dk = 0) ∧ Below w.heap.size w w'

theorem rbat_one (rs : List RBat) : ∀ u ∈ rs.flatMap RBat.cells, u.oneCell' = true := by
  intro u hu
  obtain ⟨r, _, hu⟩ := List.mem_flatMap.1 hu
  simp [RBat.cells, Bat.cells, encStr] at hu
  rcases hu with rfl | rfl | rfl | rfl | rfl | rfl | rfl | rfl <;> rfl

set_option maxRecDepth 100000 in
set_option maxHeartbeats 1000000 in
theorem refKept_any (L : Labs) (who g : Nat) (R : Rf) (w : World) (h : RefAt w L who g R) (hb : R.rs.length ≤ 120) (hdl : R.dead.length ≤ 120) :
    Calls Tryz.prog 91 #[.pointer (some ⟨g, 0, none⟩)] w fun e w' => KeptAt w R.rs R.dead e w' := by
  obtain ⟨nv, qv, bv, dv, la, lk, h⟩ := h
  obtain ⟨da, dc, rfl, _⟩ := h.dd.shape
  obtain ⟨ta, tc, rfl, _⟩ := h.tk.shape
  have c13 : w.cell? ⟨g, 13, none⟩ = some (.slice ta R.rs.length tc) := h.blk.1.cell 13
  have C14 : Hid (w.cell? ⟨g, 14, none⟩ = some (.slice da R.dead.length dc)) := h.blk.1.cell 14
  have hgl := h.blk.1.lt
  obtain ⟨i0, hi, hz0, hz1, hz2⟩ := info_parts infoInt
  obtain ⟨i1, hi1, hy0, hy1, hy2⟩ := info_parts infoRefBatch3
  have HT := hide h.tk
  have HD := hide h.dd
  have hon : ∀ u ∈ ints R.dead, u.oneCell' = true := fun u hu => by obtain ⟨x, _, rfl⟩ := List.mem_map.1 hu; rfl
  have Hon := hide hon
  have Hon1 := hide (rbat_one R.rs)
  clear h hon
  go_enter Tryz.func91, Tryz.ntmps91
  go_upto_region 3 with (first
    | (at_builtin; refine wpList_append_onto_nil _ rfl _ _ 103 rfl 112 i1 _ 8 88 Tryz.underlying103 hi1 hy0 hy1 hy2 rfl (by decide) rfl ta R.rs.length tc _ rfl HT.out.1 Hon1.out (by unfold maxLen; omega) (by omega) ?_; intro ba bk w1 hr1 hg1 hn1; have hb1 : Below w.heap.size w w1 := (Below.refl _ _).grown hg1 (Nat.le_refl _) (fun j hj => by cases hj); have Hr1 := hide hr1; have Hb1 := hide hb1; clear hr1 hg1 hn1 hb1)
    | fail)
  have d14 : w1.cell? ⟨g, 14, none⟩ = some (.slice da R.dead.length dc) := (Hb1.out.cell (p := ⟨g, 14, none⟩) hgl).trans C14.out
  have hw1 : w.heap.size ≤ w1.heap.size := Hb1.out.size
  have HD1 : Hid (w1.ownsRow 0 3 1 (.slice da R.dead.length dc) R.dead.length (ints R.dead)) := ownsRow_same HD.out.1 (fun q hq => Hb1.out.block q (HD.out.1.lt q hq).2) (Nat.le_refl _)
  go_wp2_with (first
    | (at_builtin; refine wpList_append_onto_nil _ rfl _ _ 51 rfl 3 i0 _ 1 8 Tryz.underlying51 hi hz0 hz1 hz2 rfl (by decide) rfl da R.dead.length dc _ rfl HD1.out Hon.out (by unfold maxLen; omega) (by omega) ?_; intro ea ek w2 hr2 hg2 hn2; have hb2 : Below w1.heap.size w1 w2 := (Below.refl _ _).grown hg2 (Nat.le_refl _) (fun j hj => by cases hj); have Hr2 := hide hr2; have Hb2 := hide hb2; have Hn2 := hide hn2; clear hr2 hg2 hn2 hb2)
    | fail)
  go_ret2
  refine ⟨ba, bk, ea, ek, rfl, ownsRow_same Hr1.out (fun q hq => Hb2.out.block q (Hr1.out.lt q hq).2) (Nat.le_refl _), ownsRow_same Hr2.out (fun q hq => rfl) hw1, Hn2.out, Hb1.out.trans (Hb2.out.mono hw1)⟩
end Go.Proofs.YtojpjaifhjigfaaGreatDoor
