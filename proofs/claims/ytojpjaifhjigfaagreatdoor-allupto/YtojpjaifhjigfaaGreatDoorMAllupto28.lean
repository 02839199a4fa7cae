/- conduitref.Open of no batches: the document's agent, in new memory. -/
import Derived.Test.YtojpjaifhjigfaaGreatDoorMAllupto17
import Derived.Test.YtojpjaifhjigfaaGreatDoorMAllupto14
namespace Go.Proofs.YtojpjaifhjigfaaGreatDoor
open Go.RowKit Go.Maps
attribute [local go_sem] run_store_float

/-- A destination at first. -/
def newL (n : Nat) : Out := { res := 0, fl := 0, trip := false, unt := 0, turn := 0, cr := List.replicate n 0, sends := 0, way := -1, began := 0 }
/-- The document's agent at first. -/
def Rf.new (c : Cfg) (m : Option Nat) (D : DataW Unit) (ss : List (List UInt8)) : Rf := { c := c, m := m, ns := ss, rs := [], dead := [], time := 0, ls := List.replicate c.d.toNat (newL ss.length), qs := ss.map (qOf D) }

theorem rowAt_blk {w : World} {L : Labs} {g : Nat} {l : List Int} (h : Blk w g (intsI l).toArray 3) (hl : l.length ≤ maxLen) : RowAt w L (L g) 3 1 (.slice (some ⟨g, 0, none⟩) l.length l.length) l.length (intsI l) := by
  refine ⟨⟨by simp [intsI], Or.inr ⟨g, l.length, _, rfl, Nat.zero_le _, h, Nat.le_refl _, hl, by simp [intsI], ?_⟩⟩, fun q hq => ?_⟩
  · rw [List.take_of_length_le (by simp [intsI])]
  · obtain rfl : g = q := by simpa [Value.ownBlock] using hq
    rfl

/-- Labels of destinations alone, of blocks from B on. -/
def LineLabs (L : Labs) (B n : Nat) : Prop := ∀ k l, L k = some l → (l = (0, .ol) ∨ ∃ i, l = (0, .cr i)) ∧ B ≤ k ∧ k < n

theorem lines_append {wq w2 : World} {A C : Obj} {L : Labs} {la : Option Addr} {B lk j n g2 cap2 : Nat} {fs : List Value} (hfl : fs.length = j) (hrow : RowAt wq L (some (0, .ol)) 159 9 (.slice la j lk) j (((List.replicate j (newL n)).zip fs).flatMap fun p => lineCells p.1 p.2))
    (hall : ∀ (i : Nat) (o : Out) (f : Value), (List.replicate j (newL n))[i]? = some o → fs[i]? = some f → RowAt wq L (some (0, .cr i)) 3 1 f o.cr.length (intsI o.cr)) (hL : LineLabs L B wq.heap.size) (hB : B ≤ wq.heap.size) (hn : n ≤ maxLen) (hA : A = .cells (intsI (List.replicate n 0)).toArray 3)
    (ho2 : w2.ownsRow 0 159 9 (.slice (some ⟨g2, 0, none⟩) (j + 1) cap2) (j + 1) ((((List.replicate j (newL n)).zip fs).flatMap fun p => lineCells p.1 p.2) ++ lineCells (newL n) (.slice (some ⟨wq.heap.size, 0, none⟩) n n)))
    (hg2 : ((wq.alloc A).alloc C).drew.grownBy w2 (Value.slice la j lk).ownBlock) (hat2 : (Value.slice la j lk).ownBlock = some g2 ∨ g2 = wq.heap.size + 1 + 1) :
    ∃ L', LinesAt w2 L' 0 (.slice (some ⟨g2, 0, none⟩) (j + 1) cap2) (List.replicate (j + 1) (newL n)) ∧ LineLabs L' B w2.heap.size := by
  have hsz : ((wq.alloc A).alloc C).drew.heap.size = wq.heap.size + 1 + 1 := by simp
  have hw2 : wq.heap.size + 1 + 1 ≤ w2.heap.size := by have := hg2.size; omega
  have hb : Below wq.heap.size wq ((wq.alloc A).alloc C).drew := (((Below.refl _ _).alloc (Nat.le_refl _) A).alloc (by simp) C).drew
  have s1 : Step (fun _ => False) L wq (lay L wq.heap.size (some (0, .cr j))) ((wq.alloc A).alloc C).drew := Step.of_below' hb (fun k hk => lay_other _ _ (by omega))
  have hr1 := hrow.keep s1 (fun h => h)
  have hcr : RowAt ((wq.alloc A).alloc C).drew (lay L wq.heap.size (some (0, .cr j))) (some (0, .cr j)) 3 1 (.slice (some ⟨wq.heap.size, 0, none⟩) n n) n (intsI (List.replicate n 0)) := by
    have hbk : Blk ((wq.alloc A).alloc C).drew wq.heap.size (intsI (List.replicate n 0)).toArray 3 := by rw [hA]; exact ((Blk.new wq _ _).alloc C).drewN 1
    have := rowAt_blk (L := lay L wq.heap.size (some (0, .cr j))) hbk (by simpa using hn)
    rw [lay_same] at this
    simpa using this
  obtain ⟨hr2, hl2⟩ := RowAt.appended hr1 ho2 (hat2.imp id (fun e => by omega))
  have s2 : Step (fun l => l = some (0, .ol)) (lay L wq.heap.size (some (0, .cr j))) ((wq.alloc A).alloc C).drew (lay (lay L wq.heap.size (some (0, .cr j))) g2 (some (0, .ol))) w2 := Step.of_grown hg2 (fun k hk => hr1.2 k hk) hl2
  refine ⟨lay (lay L wq.heap.size (some (0, .cr j))) g2 (some (0, .ol)), ⟨fs ++ [.slice (some ⟨wq.heap.size, 0, none⟩) n n], by simp [hfl], ?_, fun i o f ho hf => ?_⟩, fun k l hk => ?_⟩
  · have e : (((List.replicate (j + 1) (newL n)).zip (fs ++ [Value.slice (some ⟨wq.heap.size, 0, none⟩) n n])).flatMap fun p => lineCells p.1 p.2) = (((List.replicate j (newL n)).zip fs).flatMap fun p => lineCells p.1 p.2) ++ lineCells (newL n) (.slice (some ⟨wq.heap.size, 0, none⟩) n n) := by
      rw [List.replicate_succ', List.zip_append (by simp [hfl])]
      simp
    rw [e, List.length_replicate]
    exact hr2
  · by_cases hi : i < j
    · have ho' : (List.replicate j (newL n))[i]? = some o := by
        rw [List.getElem?_replicate] at ho ⊢
        rw [if_pos (by omega)] at ho
        rw [if_pos hi]
        exact ho
      have hf' : fs[i]? = some f := by rw [List.getElem?_append_left (by omega)] at hf; exact hf
      exact ((hall i o f ho' hf').keep s1 (fun h => h)).keep s2 (by simp)
    · have hil := (List.getElem?_eq_some_iff.1 ho).1
      simp at hil
      obtain rfl : i = j := by omega
      have : f = .slice (some ⟨wq.heap.size, 0, none⟩) n n := by
        rw [List.getElem?_append_right (by omega), hfl, Nat.sub_self] at hf
        simpa using hf.symm
      have ho' : o = newL n := by
        rw [List.getElem?_replicate, if_pos (by omega)] at ho
        simpa using ho.symm
      subst this ho'
      have := hcr.keep s2 (by simp)
      simpa [newL] using this
  · unfold lay at hk
    by_cases e1 : k = g2
    · rw [if_pos e1] at hk
      have : l = (0, .ol) := by simpa using hk.symm
      refine ⟨Or.inl this, ?_⟩
      have hg := hr2.1.lt g2 (by simp [Value.ownBlock])
      rw [e1]
      refine ⟨?_, hg.2⟩
      rcases hat2 with h | h
      · have := hrow.2 g2 h
        exact (hL g2 _ this).2.1
      · omega
    · rw [if_neg e1] at hk
      by_cases e2 : k = wq.heap.size
      · rw [if_pos e2] at hk
        have : l = (0, .cr j) := by simpa using hk.symm
        exact ⟨Or.inr ⟨j, this⟩, by omega, by omega⟩
      · rw [if_neg e2] at hk
        obtain ⟨q1, q2, q3⟩ := hL k l hk
        exact ⟨q1, q2, by omega⟩

/-- Labels for the agent's other parts, over those of its destinations. -/
def refLabs (L : Labs) (G : Nat) (nv qv : Value) : Labs := fun k => if k = G then some (0, .ag) else if nv.ownBlock = some k then some (0, .nm) else if qv.ownBlock = some k then some (0, .rt) else L k

theorem ownsRow_same {w w' : World} {B B' : Nat} {e : TypeId} {size : Nat} {v : Value} {n : Nat} {xs : List Value} (h : w.ownsRow B e size v n xs) (hb : ∀ g, v.ownBlock = some g → w'.heap[g]? = w.heap[g]?) (hB : B' ≤ B) : w'.ownsRow B' e size v n xs := by
  refine ⟨h.1, ?_⟩
  rcases h.2 with q | ⟨g, cap, cur, q1, q2, q3, q4⟩
  · exact Or.inl q
  · exact Or.inr ⟨g, cap, cur, q1, by omega, by rw [hb g (by rw [q1]; simp [Value.ownBlock])]; exact q3, q4⟩
theorem LinesAt.relab {w : World} {L L' : Labs} {who : Nat} {v : Value} {ls : List Out} (h : LinesAt w L who v ls) (r : ∀ k l, L k = some l → L' k = some l) : LinesAt w L' who v ls := by
  obtain ⟨fs, q1, q2, q3⟩ := h
  exact ⟨fs, q1, ⟨q2.1, fun g hg => r _ _ (q2.2 g hg)⟩, fun i o f ho hf => ⟨(q3 i o f ho hf).1, fun g hg => r _ _ ((q3 i o f ho hf).2 g hg)⟩⟩
theorem refMade_at {w w1 W3 wr : World} {L2 : Labs} {G lk : Nat} {c : Cfg} {m : Option Nat} {D : DataW Unit} {ss : List (List UInt8)} {nv qv : Value} {la : Option Addr} {qs : List Value} (hag : Blk wr G (refCells c m nv qv (.slice none 0 0) (.slice none 0 0) (.slice la c.d.toNat lk) 0) 109) (hT : Texts w1 w.heap.size nv ss) (hG : w1.heap.size = G) (hnx : Below G w1 wr)
    (hq : W3.ownsRow (G + 1) 3 1 qv ss.length qs) (hqs : qs = intsI (ss.map (qOf D))) (hst : ∀ q, q < W3.heap.size → q ≠ G → wr.heap[q]? = W3.heap[q]?) (hzz : W3.heap.size ≤ wr.heap.size) (hLn : LinesAt wr L2 0 (.slice la c.d.toNat lk) (List.replicate c.d.toNat (newL ss.length))) (hLb : LineLabs L2 W3.heap.size wr.heap.size) (hwG : w.heap.size ≤ G) (hG3 : G < W3.heap.size) :
    RefAt wr (refLabs L2 G nv qv) 0 G (Rf.new c m D ss) ∧ ∀ k l, refLabs L2 G nv qv k = some l → w.heap.size ≤ k ∧ k < wr.heap.size := by
  have hn : ∀ g, nv.ownBlock = some g → w.heap.size ≤ g ∧ g < G := fun g hg => by have := hT.lt g hg; omega
  have hqb : ∀ g, qv.ownBlock = some g → G + 1 ≤ g ∧ g < W3.heap.size := fun g hg => hq.lt g hg
  refine ⟨⟨nv, qv, .slice none 0 0, .slice none 0 0, la, lk, ⟨hag, by simp [refLabs]⟩, ⟨ownsRow_same hT (fun g hg => hnx.block g (hn g hg).2) (Nat.zero_le _), fun g hg => ?_⟩, RowAt.nil _ _ _ _ _, RowAt.nil _ _ _ _ _, ⟨?_, fun g hg => ?_⟩, ?_, by simp [Rf.new]⟩, fun k l hk => ?_⟩
  · have := hn g hg
    simp only [refLabs]
    rw [if_neg (by omega), if_pos hg]
  · show wr.ownsRow 0 3 1 qv (ss.map (qOf D)).length (intsI (ss.map (qOf D)))
    rw [← hqs, List.length_map]
    exact ownsRow_same hq (fun g hg => hst g (hqb g hg).2 (by have := (hqb g hg).1; omega)) (Nat.zero_le _)
  · have h1 := hqb g hg
    simp only [refLabs]
    rw [if_neg (by omega), if_neg (fun e => by have := hn g e; omega), if_pos hg]
  · refine hLn.relab (fun k l hk => ?_)
    have h1 := (hLb k l hk).2.1
    simp only [refLabs]
    rw [if_neg (by omega), if_neg (fun e => by have := hn k e; omega), if_neg (fun e => by have := hqb k e; omega), hk]
  · simp only [refLabs] at hk
    by_cases e1 : k = G
    · have := hag.lt; omega
    · rw [if_neg e1] at hk
      by_cases e2 : nv.ownBlock = some k
      · have := hn k e2; have := hag.lt; omega
      · rw [if_neg e2] at hk
        by_cases e3 : qv.ownBlock = some k
        · have := hqb k e3; omega
        · rw [if_neg e3] at hk
          have := hLb k l hk
          omega

/-- What the document's Open leaves: a new agent without batches. -/
def RefMade (c : Cfg) (m : Option Nat) (D : DataW Unit) (w : World) (e : Ending) (w' : World) : Prop := ∃ g ss L0, e = .returned (.pointer (some ⟨g, 0, none⟩)) ∧ RefAt w' L0 0 g (Rf.new c m D ss) ∧ (∀ k l, L0 k = some l → w.heap.size ≤ k ∧ k < w'.heap.size) ∧ ss.Perm (strKeys D) ∧ ss.Pairwise (fun a b => a ≤ b) ∧ Below w.heap.size w w'

set_option maxRecDepth 100000 in
set_option maxHeartbeats 4000000 in
theorem refOpen_any (c : Cfg) (m : Option Nat) (D : DataW Unit) (w : World) (h : MapAt w m D) (hd0 : 1 ≤ c.d) (hd1 : c.d ≤ 4) :
    Calls Tryz.prog 43 #[c.val m, .slice none 0 0, .slice none 0 0] w fun e w' => RefMade c m D w e w' := by
  have H := hide h
  have e0 := (Blk.new w (c.cells m) 25).cell
  have hB0 : Hid (Below w.heap.size w (w.alloc (.cells (c.cells m) 25))) := (Below.refl _ _).alloc (Nat.le_refl _) _
  clear h e0
  go_enter Tryz.func43, Tryz.ntmps43
  go_wp2_with fail
  generalize hV : World.alloc w _ = V
  have hK : Blk V w.heap.size (c.cells m) 25 := by rw [← hV]; exact Blk.new w _ _
  have hz : V.heap.size = w.heap.size + 1 := by rw [← hV]; simp
  have HV : Hid (MapAt V m D) := by rw [← hV]; exact H.out.alloc _
  rw [hV] at hB0
  obtain ⟨e0, e1, e2, e3, e4, e5, e6, e7, e8, e9, e10⟩ : V.cell? ⟨w.heap.size, 0, none⟩ = some (.int .i64 c.d) ∧ V.cell? ⟨w.heap.size, 1, none⟩ = some (.map (m)) ∧ V.cell? ⟨w.heap.size, 2, none⟩ = some (.int .i64 c.q) ∧ V.cell? ⟨w.heap.size, 3, none⟩ = some (.int .i64 c.at') ∧ V.cell? ⟨w.heap.size, 4, none⟩ = some (.int .i64 c.ba) ∧ V.cell? ⟨w.heap.size, 5, none⟩ = some (.int .i64 c.ca) ∧ V.cell? ⟨w.heap.size, 6, none⟩ = some (.int .i64 c.ti) ∧ V.cell? ⟨w.heap.size, 7, none⟩ = some (.int .i64 c.wi) ∧ V.cell? ⟨w.heap.size, 8, none⟩ = some (.int .i64 c.le) ∧ V.cell? ⟨w.heap.size, 9, none⟩ = some (.float .f64 c.th) ∧ V.cell? ⟨w.heap.size, 10, none⟩ = some (.int .i64 c.op) := ⟨hK.cell 0, hK.cell 1, hK.cell 2, hK.cell 3, hK.cell 4, hK.cell 5, hK.cell 6, hK.cell 7, hK.cell 8, hK.cell 9, hK.cell 10⟩
  have HK := hide hK
  have hlt : w.heap.size < V.heap.size := by omega
  clear hV hK
  go_region_held3 (fun w' => w'.cell? ⟨w.heap.size, 0, none⟩ = some (.int .i64 c.d) ∧ w'.cell? ⟨w.heap.size, 1, none⟩ = some (.map (m)) ∧ w'.cell? ⟨w.heap.size, 2, none⟩ = some (.int .i64 c.q) ∧ w'.cell? ⟨w.heap.size, 3, none⟩ = some (.int .i64 c.at') ∧ w'.cell? ⟨w.heap.size, 4, none⟩ = some (.int .i64 c.ba) ∧ w'.cell? ⟨w.heap.size, 5, none⟩ = some (.int .i64 c.ca) ∧ w'.cell? ⟨w.heap.size, 6, none⟩ = some (.int .i64 c.ti) ∧ w'.cell? ⟨w.heap.size, 7, none⟩ = some (.int .i64 c.wi) ∧ w'.cell? ⟨w.heap.size, 8, none⟩ = some (.int .i64 c.le) ∧ w'.cell? ⟨w.heap.size, 9, none⟩ = some (.float .f64 c.th) ∧ w'.cell? ⟨w.heap.size, 10, none⟩ = some (.int .i64 c.op)) (go_keep)
    (first
      | (go_at_call 78; refine (refNames_any m D _ (HV.out.below (below_drewN (Below.refl V.heap.size V) 1) (Nat.le_refl _))).mono ?_; rintro e w1 ⟨nv, ss, rfl, hT, hP, hSr, hb1⟩; obtain ⟨na, nk, rfl⟩ := hT.shape; have hc1 := fun o => hb1.cell (p := ⟨w.heap.size, o, none⟩) hlt; have Hb1 := hide hb1; have HT := hide hT; have HP := hide hP; have HSr := hide hSr; have hz1 : V.heap.size ≤ w1.heap.size := hb1.size; clear hb1 hT hP hSr))
  go_wp2_with fail
  generalize hW : World.alloc w1 _ = W
  have hA : Blk W w1.heap.size (refCells c m (.slice na ss.length nk) (.slice none 0 0) (.slice none 0 0) (.slice none 0 0) (.slice none 0 0) 0) 109 := by rw [← hW]; exact Blk.new w1 _ _
  have hbW : Below w1.heap.size w1 W := by rw [← hW]; exact (Below.refl _ _).alloc (Nat.le_refl _) _
  have hb1 : Below w.heap.size w w1 := (below_drewN hB0.out 1).trans (Hb1.out.mono (show w.heap.size ≤ V.heap.size by omega))
  have HK1 : Hid (Blk w1 w.heap.size (c.cells m) 25) := (HK.out.drewN 1).below Hb1.out hlt
  have HM1 : Hid (MapAt w1 m D) := HV.out.below (w' := w1) ((below_drewN (Below.refl V.heap.size V) 1).trans Hb1.out) (Nat.le_refl _)
  have HA := hide hA
  have HbW := hide hbW
  have HB1 := hide hb1
  have hGs : w.heap.size < w1.heap.size := by omega
  have hbig : (ss.length : Int) ≤ 8796093022208 := by
    rcases H.out with ⟨_, rfl⟩ | ⟨b, n, _, h2, h3⟩
    · have := HP.out.length_eq; rw [show (strKeys (.map [] : DataW Unit)).length = 0 from rfl] at this; omega
    · have := HP.out.length_eq; rw [size_strKeys h2] at this; have := h2.size_le; unfold big at h3; omega
  have HT1 : Hid (Texts w1 w.heap.size (.slice na ss.length nk) ss) := HT.out.mono_base (by show w.heap.size ≤ V.heap.size; omega)
  clear hW hA hbW hb1 hc1 e0 e1 e2 e3 e4 e5 e6 e7 e8 e9 e10
  generalize hG : w1.heap.size = G at *
  have HGe := hide hG
  clear hG
  go_loopw [8] (fun i wr => ∃ (k : Nat) (qa : Option Addr) (qk : Nat) (qs : List Value), k ≤ ss.length ∧ i = .int .i64 k ∧ wr.ownsRow (G + 1) 3 1 (.slice qa k qk) k qs ∧ qs = intsI ((ss.take k).map (qOf D)) ∧
      Blk wr G (refCells c m (.slice na ss.length nk) (.slice qa k qk) (.slice none 0 0) (.slice none 0 0) (.slice none 0 0) 0) 109 ∧ Below G w1 wr) (fun i _ => ss.length - (intOf i).toNat)
  case atStart => exact ⟨0, none, 0, [], Nat.zero_le _, rfl, ⟨rfl, Or.inl ⟨rfl, rfl⟩⟩, rfl, HA.out, HbW.out⟩
  case round =>
    obtain ⟨k, qa, qk, qs, hk, rfl, hq, hqs, hag, hnx⟩ := hrel
    have Hqs := hide hqs
    clear hqs
    have Hq := hide hq
    have Hag := hide hag
    have Hnx := hide hnx
    have hGw : G < wr.heap.size := hag.lt
    have a11 : wr.cell? ⟨G, 11, none⟩ = some (.slice na ss.length nk) := hag.cell 11
    by_cases hlt2 : k < ss.length
    · have hltI : (k : Int) < (ss.length : Int) := by omega
      obtain ⟨g0, rfl, hR, hg0⟩ := HT1.out.head (by omega)
      have hg0G : g0 < G := by obtain ⟨cur, hc, _⟩ := hR; have := hc.lt; have := HGe.out; omega
      have hck : wr.cell? ⟨g0, k, none⟩ = some (encStr (ss[k]'hlt2)) := by rw [hnx.cell (p := ⟨g0, k, none⟩) hg0G]; exact hR.cell k hlt2
      have hc1 : wr.cell? ⟨w.heap.size, 1, none⟩ = some (.map m) := by rw [hnx.cell (p := ⟨w.heap.size, 1, none⟩) hGs]; exact HK1.out.cell 1
      have a12 : wr.cell? ⟨G, 12, none⟩ = some (.slice qa k qk) := hag.cell 12
      have f12 : wr.frozen? ⟨G, 12, none⟩ = false := hag.frozen 12
      obtain ⟨b, n, rfl, hown⟩ : ∃ b n, m = some b ∧ OM w1 b n D := by
        rcases HM1.out with ⟨_, rfl⟩ | ⟨b, n, h1, h2, _⟩
        · have := HP.out.length_eq; rw [show (strKeys (.map [] : DataW Unit)).length = 0 from rfl] at this; omega
        · exact ⟨b, n, h1, h2⟩
      have hin : ss[k] ∈ strKeys D := HP.out.mem_iff.1 (List.getElem_mem hlt2)
      obtain ⟨q, hAt, hlook⟩ := look_at hown ((mem_strKeys hown _).1 hin)
      have hbG : b < G := by have := hown.lt; have := HGe.out; omega
      have hlk := hlook wr.drew n (om_below hown Hnx.out hbG).drew
      have hlk2 := fun o => hlook (wr.drew.alloc o) n ((om_below hown Hnx.out hbG).drew.alloc o)
      obtain ⟨i0, hi, hz0, hz1, hz2⟩ := info_parts infoInt
      have HQe : Hid (qs ++ [.int .i64 q] = intsI ((ss.take (k + 1)).map (qOf D))) := by
        show _ = _
        rw [Hqs.out, List.take_succ_eq_append_getElem hlt2, List.map_append]
        simp [intsI, qOf_at hAt]
      clear hR hown hin hlook hAt hnx hag
      generalize hx : ss[k]'hlt2 = x at *
      clear hx
      go_wp2_with fail
      go_region_law (refine step_append_lies _ (by rfl) _ _ _ (by rfl) (G + 1) 3 i0 _ 1 8 Tryz.underlying51 hi hz0 hz1 hz2 rfl (by omega) (.slice qa k qk) k qs (by rfl) ((hq.alloc _).drew) ⟨wr.heap.size, 0, none⟩ 1 1 [.int .i64 q] (by rfl) (by rfl) (World.news_of_block (cs := #[.int .i64 q]) (t := 3) (fr := (0, 0)) (heap_alloc_new wr _)) (by simp [Value.oneCell']) (by omega) (by unfold maxLen; omega) (by omega) (by simp; omega) (wr.heap.size + 1) (by simp) ?_; intro gg cap w2 hown2 hgrow hat hlt3; have hBk := Blk.grown (w := World.drew (World.alloc wr _)) (Hag.out.alloc _) hgrow (fun e => absurd (hq.lt G e.symm).1 (by omega)); have c12 := hBk.cell 12; have f12' := hBk.frozen 12; simp at c12; have HBk := hide hBk; clear hBk)
      all_goals
        have hB2 : Below G w1 w2 := ((Hnx.out.alloc (by omega) _).drew).grown hgrow (by simp; omega) (fun j hj => by have := (hq.lt j hj).1; omega)
        have Hown2 := hide hown2
        have HB2 := hide hB2
        clear hown2 hB2 hgrow hat hq c12 f12' hlk hlk2 hck hc1 a12 f12 a11
        go_wp2_with fail
        go_roundw
        case rel => exact ⟨k + 1, _, _, _, by omega, by go_num, ownsRow_setCell_below Hown2.out (by simp) _, HQe.out, HBk.out.set 12 _, HB2.out.setCell (by simp) _⟩
        case measure => simp [intOf]; omega
    · obtain rfl : k = ss.length := by omega
      have Hq0 := hide hq
      clear hq hag hnx
      have a14 : wr.cell? ⟨G, 14, none⟩ = some (.slice none 0 0) := Hag.out.cell 14
      have f14 : wr.frozen? ⟨G, 14, none⟩ = false := Hag.out.frozen 14
      obtain ⟨i0, hi, hz0, hz1, hz2⟩ := info_parts infoInt
      have hrow : wr.ownsRow 0 3 1 (.slice none 0 0) 0 [] := ⟨rfl, Or.inl ⟨rfl, rfl⟩⟩
      go_wp2_with fail
      refine wp_loop_rounds 1 ?_
      rw [rounds_succ]
      go_wp2_with (first
        | (at_builtin; refine wpList_append_own_none rfl _ _ 51 rfl 0 3 i0 1 Tryz.underlying51 hi _ 0 [] rfl hrow rfl ?_)
        | fail)
      have hA3 : Blk (wr.setCell ⟨G, 14, none⟩ (.slice none 0 0)) G (refCells c m (.slice na ss.length nk) (.slice qa ss.length qk) (.slice none 0 0) (.slice none 0 0) (.slice none 0 0) 0) 109 := Hag.out.set 14 _
      have hB3 : Below G w1 (wr.setCell ⟨G, 14, none⟩ (.slice none 0 0)) := Hnx.out.setCell (by simp) _
      have HA3 := hide hA3
      have HB3 := hide hB3
      clear hA3 hB3 a14 f14 hrow a11
      have HQ3 : Hid ((wr.setCell ⟨G, 14, none⟩ (.slice none 0 0)).ownsRow (G + 1) 3 1 (.slice qa ss.length qk) ss.length qs) := ownsRow_setCell_below Hq0.out (by simp) _
      generalize hW3 : wr.setCell ⟨G, 14, none⟩ (.slice none 0 0) = W3 at *
      clear hW3
      obtain ⟨d, hd⟩ : ∃ d : Nat, c.d = d := ⟨c.d.toNat, by omega⟩
      have hd4 : d ≤ 4 := by omega
      have HD := hide hd
      clear hd
      have hG3 : G < W3.heap.size := HA3.out.lt
      go_loopw [11] (fun i wq => ∃ (j : Nat) (la : Option Addr) (lk : Nat) (L2 : Labs), j ≤ d ∧ i = .int .i64 j ∧ LinesAt wq L2 0 (.slice la j lk) (List.replicate j (newL ss.length)) ∧ LineLabs L2 W3.heap.size wq.heap.size ∧
          Blk wq G (refCells c m (.slice na ss.length nk) (.slice qa ss.length qk) (.slice none 0 0) (.slice none 0 0) (.slice la j lk) 0) 109 ∧ Below G w1 wq ∧ W3.heap.size ≤ wq.heap.size ∧ ∀ q, q < W3.heap.size → q ≠ G → wq.heap[q]? = W3.heap[q]?) (fun i _ => d - (intOf i).toNat)
      case atStart => exact ⟨0, none, 0, fun _ => none, Nat.zero_le _, rfl, ⟨[], rfl, RowAt.nil _ _ _ _ _, fun i o f ho => by simp at ho⟩, fun k l h => (by cases h), HA3.out, HB3.out, Nat.le_refl _, fun _ _ _ => rfl⟩
      case round =>
        obtain ⟨j, la, lk, L2, hj, rfl, hLn, hLb, hag, hnx, hzz, hst⟩ := hrel
        have Hag4 := hide hag
        have Hnx4 := hide hnx
        have HLn := hide hLn
        have HLb := hide hLb
        have Hst := hide hst
        have hGw4 : G < wr.heap.size := hag.lt
        have hc0 : wr.cell? ⟨w.heap.size, 0, none⟩ = some (.int .i64 c.d) := by rw [hnx.cell (p := ⟨w.heap.size, 0, none⟩) hGs]; exact HK1.out.cell 0
        by_cases hjd : j < d
        · have hjI : (j : Int) < (d : Int) := by omega
          have hjc : (j : Int) < c.d := by rw [HD.out]; omega
          have b11 : wr.cell? ⟨G, 11, none⟩ = some (.slice na ss.length nk) := hag.cell 11
          have b15 : wr.cell? ⟨G, 15, none⟩ = some (.slice la j lk) := hag.cell 15
          have g15 : wr.frozen? ⟨G, 15, none⟩ = false := hag.frozen 15
          have hmk := fun w => run_make_row' (P := Tryz.prog) 51 3 (.int .i64 0) 8 Tryz.underlying51 infoInt rfl .i64 .i64 ss.length (by omega) (by omega) w
          have HMd := hide (made_part0 (List.replicate ss.length 0) ss.length (by simp))
          obtain ⟨fs, hfl, hrow, hall⟩ := hLn
          simp only [List.length_replicate] at hfl hrow
          have Hrow := hide hrow
          have Hall := hide hall
          have hGb : some G ≠ (Value.slice la j lk).ownBlock := fun e => by
            have := (hLb G _ (hrow.2 G e.symm)).2.1
            omega
          have HGb := hide hGb
          have Hfl := hide hfl
          obtain ⟨i1, hi1, hy0, hy1, hy2⟩ := info_parts infoLine
          have HEnd : Hid (∀ g2 cap2 (w2 : World), w2.ownsRow 0 159 9 (.slice (some ⟨g2, 0, none⟩) (j + 1) cap2) (j + 1) ((((List.replicate j (newL ss.length)).zip fs).flatMap fun p => lineCells p.1 p.2) ++ lineCells (newL ss.length) (.slice (some ⟨wr.heap.size, 0, none⟩) ss.length ss.length)) →
              ((wr.alloc (.cells (madeCells #[.int .i64 0] ss.length) 3)).alloc (.cells (lineCells (newL ss.length) (.slice (some ⟨wr.heap.size, 0, none⟩) ss.length ss.length)).toArray 159)).drew.grownBy w2 (Value.slice la j lk).ownBlock → ((Value.slice la j lk).ownBlock = some g2 ∨ g2 = wr.heap.size + 1 + 1) →
              ∃ L4, LinesAt (w2.setCell ⟨G, 15, none⟩ (.slice (some ⟨g2, 0, none⟩) (j + 1) cap2)) L4 0 (.slice (some ⟨g2, 0, none⟩) (j + 1) cap2) (List.replicate (j + 1) (newL ss.length)) ∧ LineLabs L4 W3.heap.size (w2.setCell ⟨G, 15, none⟩ (.slice (some ⟨g2, 0, none⟩) (j + 1) cap2)).heap.size ∧ W3.heap.size ≤ (w2.setCell ⟨G, 15, none⟩ (.slice (some ⟨g2, 0, none⟩) (j + 1) cap2)).heap.size ∧
                ∀ q, q < W3.heap.size → q ≠ G → (w2.setCell ⟨G, 15, none⟩ (.slice (some ⟨g2, 0, none⟩) (j + 1) cap2)).heap[q]? = W3.heap[q]?) := fun g2 cap2 w2 a1 a2 a3 => by
            obtain ⟨L4, h1, h2⟩ := lines_append Hfl.out Hrow.out Hall.out HLb.out hzz (by unfold maxLen; omega) (by rw [HMd.out, part0_zero]; simp) a1 a2 a3
            have hL4 : L4 G = none := by
              cases e : L4 G with
              | none => rfl
              | some l => have := (h2 G l e).2.1; omega
            refine ⟨L4, h1.keep (p := fun l => l = none) (Step.setCell _ _ _ _ hL4) (by simp) (by simp), ?_, ?_, fun q hq hne => ?_⟩
            · intro k l hk
              have := h2 k l hk
              simpa [World.setCell] using this
            · have := a2.size
              simp [World.setCell] at this ⊢
              omega
            · rw [heap_setCell_other _ _ _ _ hne, a2.block q (by simp; omega) (fun e => by have := (HLb.out q _ (Hrow.out.2 q e.symm)).2.1; omega)]
              show ((wr.alloc _).alloc _).heap[q]? = _
              rw [Below.heap_alloc _ _ _ (by simp; omega), Below.heap_alloc _ _ _ (by omega)]
              exact Hst.out q hq hne
          clear hag hnx hrow hall hLb hst hGb
          go_wp2_with fail
          go_region_law (refine step_append_lies _ (by rfl) _ _ _ (by rfl) 0 159 i1 _ 9 88 Tryz.underlying107 hi1 hy0 hy1 hy2 rfl (by omega) (.slice la j lk) j _ (by rfl) (((Hrow.out.1.alloc _).alloc _).drew) ⟨wr.heap.size + 1, 0, none⟩ 1 1 [.int .i64 0, .int .i64 0, .bool false, .int .i64 0, .int .i64 0, .slice (some ⟨wr.heap.size, 0, none⟩) ss.length ss.length, .int .i64 0, .int .i64 (-1), .int .i64 0] (by rfl) (by rfl) (World.news_of_block (cs := #[.int .i64 0, .int .i64 0, .bool false, .int .i64 0, .int .i64 0, .slice (some ⟨wr.heap.size, 0, none⟩) ss.length ss.length, .int .i64 0, .int .i64 (-1), .int .i64 0]) (t := 159) (fr := (0, 0)) (Blk.made (by simp) _ _)) (by simp [Value.oneCell']) (by omega) (by unfold maxLen; omega) (by omega) (Nat.zero_le _) (wr.heap.size + 1 + 1) (by simp) ?_; intro gg cap w2 hown2 hgrow hat hlt3; have HE2 := hide (HEnd.out gg cap w2 hown2 hgrow hat); have hBk := Blk.grown (w := World.drew (World.alloc (World.alloc wr _) _)) ((Hag4.out.alloc _).alloc _) hgrow HGb.out; have hB2 : Below G w1 w2 := (((Hnx4.out.alloc (by omega) _).alloc (by simp; omega) _).drew).grown hgrow (by simp; omega) (fun q hq => by have := (HLb.out q _ (Hrow.out.2 q hq)).2.1; omega); have HB2 := hide hB2; have c15 : w2.cell? ⟨G, 15, none⟩ = some (.slice la j lk) := hBk.cell 15; have g15' := hBk.frozen 15; have HBk := hide hBk; clear hBk hB2 hown2 hgrow hat)
          all_goals
            clear b11 b15 g15 hmk
            go_wp2_with fail
            go_roundw
            case rel =>
              obtain ⟨L4, r1, r2, r3, r4⟩ := HE2.out
              exact ⟨j + 1, _, _, L4, by omega, by go_num, r1, r2, HBk.out.set 15 _, HB2.out.setCell (by simp) _, r3, r4⟩
            case measure => simp [intOf]; omega
        · have hjd' : ¬ (j : Int) < c.d := by rw [HD.out]; omega
          have hje : j = c.d.toNat := by rw [HD.out]; omega
          have Hje := hide hje
          clear hje hag hnx hLn hLb hst
          go_wp2_with fail
          go_ret
          obtain ⟨r1, r2⟩ := refMade_at (w := w) (by have := Hag4.out; rw [Hje.out] at this; exact this) HT1.out HGe.out Hnx4.out HQ3.out (by rw [Hqs.out, List.take_of_length_le (Nat.le_refl _)]) Hst.out hzz (by have := HLn.out; rw [Hje.out] at this; exact this) HLb.out (by omega) hG3
          exact ⟨G, ss, _, rfl, r1, r2, HP.out, HSr.out, HB1.out.trans (Hnx4.out.mono (by omega))⟩
end Go.Proofs.YtojpjaifhjigfaaGreatDoor
