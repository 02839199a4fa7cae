/- Steps of the proof (several texts in one): Good, Same, Config, Example, RefOpen, Foot. -/
import Derived.Test.YtojpjaifhjigfaaGreatDoorMAllupto01
import Derived.Deep.DeepCutAuto
import Derived.Deep.QuietTactic
import Derived.BigQuiet
import Derived.Deep.RegionHeld3
import Derived.Laws.ResultCell
import Derived.Deep.RegionLaw
import Derived.Deep.AppendLies
import Derived.Laws.AppendOwnNone
import Derived.Deep.OwnRows
import Derived.Maps.Ext
import Derived.Maps.AppendAt

/- conduitref.Good: is it a configuration? -/
namespace Go.Proofs.YtojpjaifhjigfaaGreatDoor
open Go.RowKit Go.Maps

theorem mem_strKeys {w : World} {b n : Nat} {D : DataW Unit} (h : OM w b n D) (x : List UInt8) : x ∈ strKeys D ↔ Maps.has D (.string x) = true := by
  obtain ⟨es, rfl, hk⟩ := h.keysOf
  have hk' : ∀ p ∈ es, ∃ y, p.1 = .string y := fun p hp => by
    obtain ⟨v, hv⟩ := hk p hp
    obtain ⟨y, _, hy, _⟩ := Maps.keyOf_str Tryz.underlying9 hv
    exact ⟨y, hy⟩
  rw [has_eq, List.any_eq_true]
  show x ∈ es.map (fun p => strOf p.1) ↔ _
  rw [List.mem_map]
  constructor
  · rintro ⟨p, hp, rfl⟩
    obtain ⟨y, hy⟩ := hk' p hp
    exact ⟨p, hp, by rw [hy]; simp [Lit.sameKey, strOf]⟩
  · rintro ⟨p, hp, hs⟩
    obtain ⟨y, hy⟩ := hk' p hp
    rw [hy] at hs
    exact ⟨p, hp, by rw [hy]; simpa [Lit.sameKey, strOf] using hs⟩
theorem size_strKeys {w : World} {b n : Nat} {D : DataW Unit} (h : OM w b n D) : (strKeys D).length = Maps.size D := by
  obtain ⟨es, rfl, _⟩ := h.keysOf
  simp [strKeys, Maps.size]
theorem keyOfStr {x : List UInt8} (h : x.length ≤ maxLen) : keyOf Tryz.prog 9 (encStr x) = some (.string x) := by
  simp [keyOf, Tryz.underlying9, mapKey, encStr, ByteArray.size, h]

/-- What stands at a key that is there, and that a look-up finds it in every world in which the map lies so. -/
theorem look_at {w : World} {b n : Nat} {D : DataW Unit} (h : OM w b n D) {x : List UInt8} (hx : Maps.has D (.string x) = true) :
    ∃ c, At D x c ∧ ∀ w' n', OM w' b n' D → (Instr.lookup 22 (.map (some b)) (encStr x) false).run Tryz.prog w' = .ok (.int .i64 c) w' := by
  have hl : x.length ≤ maxLen := strKeys_le h Tryz.underlying9 x ((mem_strKeys h x).2 hx)
  have hkey := keyOfStr hl
  obtain ⟨c, _, hat, _⟩ := h.lookup_int lawS Tryz.underlying22 Tryz.underlying3 (zeroInt w) hkey
  have hAt : At D x c := fun zd => by
    rw [← hat]
    obtain ⟨es, rfl, _⟩ := h.keysOf
    rw [has_eq, List.any_eq_true] at hx
    obtain ⟨p, hp, hs⟩ := hx
    cases hf : es.find? (fun p => p.1.sameKey (.string x)) with
    | none => exact absurd hs (by have := List.find?_eq_none.1 hf p hp; simpa using this)
    | some q => simp [DataW.atKey, hf]
  refine ⟨c, hAt, fun w' n' h' => ?_⟩
  obtain ⟨c', hrun, hat', _⟩ := h'.lookup_int lawS Tryz.underlying22 Tryz.underlying3 (zeroInt w') hkey
  have : c = c' := by
    have := hat.symm.trans hat'
    simpa using this
  rw [this]; exact hrun

theorem Texts.head {w : World} {B : Nat} {a : Option Addr} {c : Nat} {ss : List (List UInt8)} (h : Texts w B (.slice a ss.length c) ss) (h0 : 0 < ss.length) : ∃ g, a = some ⟨g, 0, none⟩ ∧ RowS w g c ss ∧ B ≤ g := by
  rcases h.2 with ⟨_, h1⟩ | ⟨g, cap, cur, h1, h2, _⟩
  · omega
  · simp only [Value.slice.injEq, true_and] at h1
    obtain ⟨rfl, rfl⟩ := h1
    exact ⟨g, rfl, RowS.of h, h2⟩

/-- It answers whether p holds. -/
def BoolIff (e : Ending) (p : Prop) : Prop := ∃ r, e = .returned (.bool r) ∧ (r = true ↔ p)
theorem BoolIff.no {p : Prop} (h : ¬ p) : BoolIff (.returned (.bool false)) p := ⟨false, rfl, by simp [h]⟩
theorem BoolIff.yes {p : Prop} (h : p) : BoolIff (.returned (.bool true)) p := ⟨true, rfl, by simp [h]⟩
theorem BoolIff.mk {p : Prop} {r : Bool} (h : r = true ↔ p) : BoolIff (.returned (.bool r)) p := ⟨r, rfl, h⟩

/-- The numbers besides the map, in the order in which Good asks. -/
def Cfg.firstB (c : Cfg) (n : Nat) : Bool := decide (1 ≤ c.d) && decide (c.d ≤ 4) && decide (1 ≤ (n : Int)) && decide ((n : Int) ≤ 8) && decide (1 ≤ c.q) && decide (c.q ≤ 120) && decide (1 ≤ c.at') && decide (c.at' ≤ 10)
def Cfg.timesB (c : Cfg) : Bool := decide (1 ≤ c.ba) && decide (c.ba ≤ c.ca) && decide (c.ca ≤ 60000) && decide (1 ≤ c.ti) && decide (c.ti ≤ 60000) && decide (1 ≤ c.op) && decide (c.op ≤ 60000)
def Cfg.restB (c : Cfg) : Bool := decide (1 ≤ c.wi) && decide (c.wi ≤ 64) && decide (1 ≤ c.le) && decide (c.le ≤ c.wi) && thB c.th

theorem Cfg.good_iff (c : Cfg) (n : Nat) : (c.firstB n && c.timesB && c.restB) = true ↔ c.numB = true ∧ (1 ≤ n ∧ n ≤ 8) ∧ thB c.th = true := by
  simp only [Cfg.firstB, Cfg.timesB, Cfg.restB, Cfg.numB, Cfg.nums, inB, List.all_cons, List.all_nil, Bool.and_eq_true, decide_eq_true_eq, Bool.and_true]
  constructor
  · rintro ⟨⟨⟨⟨⟨⟨⟨⟨⟨a1, a2⟩, a3⟩, a4⟩, a5⟩, a6⟩, a7⟩, a8⟩, ⟨⟨⟨⟨⟨⟨b1, b2⟩, b3⟩, b4⟩, b5⟩, b6⟩, b7⟩⟩, ⟨⟨⟨⟨c1, c2⟩, c3⟩, c4⟩, c5⟩⟩
    exact ⟨⟨⟨a1, a2⟩, ⟨a5, a6⟩, ⟨a7, a8⟩, ⟨by omega, b3⟩, ⟨b1, b2⟩, ⟨b4, b5⟩, ⟨b6, b7⟩, ⟨c1, c2⟩, ⟨c3, c4⟩⟩, ⟨by omega, by omega⟩, c5⟩
  · rintro ⟨⟨⟨a1, a2⟩, ⟨a5, a6⟩, ⟨a7, a8⟩, ⟨_, b3⟩, ⟨b1, b2⟩, ⟨b4, b5⟩, ⟨b6, b7⟩, ⟨c1, c2⟩, ⟨c3, c4⟩⟩, ⟨d1, d2⟩, c5⟩
    exact ⟨⟨⟨⟨⟨⟨⟨⟨⟨a1, a2⟩, by omega⟩, by omega⟩, a5⟩, a6⟩, a7⟩, a8⟩, ⟨⟨⟨⟨⟨⟨b1, b2⟩, b3⟩, b4⟩, b5⟩, b6⟩, b7⟩⟩, ⟨⟨⟨⟨c1, c2⟩, c3⟩, c4⟩, c5⟩⟩

set_option maxRecDepth 100000 in
set_option maxHeartbeats 2000000 in
theorem good_any (c : Cfg) (m : Option Nat) (D : DataW Unit) (w : World) (h : MapAt w m D) : Calls Tryz.prog 41 #[c.val m] w fun e w' => BoolIff e (GoodC c D) ∧ Below w.heap.size w w' := by
  have H := hide h
  clear h
  go_enter Tryz.func41, Tryz.ntmps41
  go_wp2_with fail
  refine (refNames_any m D _ (H.out.alloc _)).mono ?_
  rintro e w1 ⟨v, ss, rfl, hT, hP, _, hb1⟩
  obtain ⟨a3, c3, hv⟩ := hT.shape
  subst hv
  have HT := hide hT
  have HP := hide hP
  have Hb1 : Hid (Below w.heap.size w w1) := ((Below.refl _ _).alloc (Nat.le_refl _) _).trans (hb1.mono (by simp))
  have HK : Hid (Blk w1 w.heap.size (c.cells m) 25) := (Blk.new w _ _).below hb1 (by simp)
  have HM : Hid (MapAt w1 m D) := (H.out.alloc _).below hb1 (Nat.le_refl _)
  have hbig : (ss.length : Int) ≤ 8796093022208 := by
    rcases H.out with ⟨_, rfl⟩ | ⟨b, n, _, h2, h3⟩
    · have := HP.out.length_eq; rw [show (strKeys (.map [] : DataW Unit)).length = 0 from rfl] at this; omega
    · have := HP.out.length_eq; rw [size_strKeys h2] at this; have := h2.size_le; unfold big at h3; omega
  clear hT hP hb1
  go_wp2_with fail
  go_loopw [4] (fun i wr => ∃ k n : Nat, k ≤ ss.length ∧ i = .int .i64 k ∧ wr = w1.drewN n ∧ ∀ j x, j < k → ss[j]? = some x → ∀ q, At D x q → okKV x q = true) (fun i _ => ss.length - (intOf i).toNat)
  case atStart => exact ⟨0, 0, Nat.zero_le _, rfl, rfl, fun j x hj => absurd hj (Nat.not_lt_zero _)⟩
  case round =>
    obtain ⟨k, nd, hk, rfl, rfl, hall⟩ := hrel
    have Hall := hide hall
    clear hall
    by_cases hlt : k < ss.length
    · have hltI : (k : Int) < (ss.length : Int) := by omega
      obtain ⟨g, rfl, hR, _⟩ := HT.out.head (by omega)
      have hck : w1.cell? ⟨g, k, none⟩ = some (encStr (ss[k]'hlt)) := hR.cell k hlt
      have hc1 : w1.cell? ⟨w.heap.size, 1, none⟩ = some (.map m) := HK.out.cell 1
      obtain ⟨b, n, rfl, hown⟩ : ∃ b n, m = some b ∧ OM w1 b n D := by
        rcases HM.out with ⟨_, rfl⟩ | ⟨b, n, h1, h2, _⟩
        · have := HP.out.length_eq; rw [show (strKeys (.map [] : DataW Unit)).length = 0 from rfl] at this; omega
        · exact ⟨b, n, h1, h2⟩
      have hin : ss[k] ∈ strKeys D := HP.out.mem_iff.1 (List.getElem_mem hlt)
      obtain ⟨q, hAt, hlook⟩ := look_at hown ((mem_strKeys hown _).1 hin)
      have hlk := fun nq => hlook (w1.drewN nq) n hown
      have HA := hide hAt
      have HX : Hid (∀ y q', ss[k]? = some y → At D y q' → okKV y q' = okKV (ss[k]'hlt) q) := fun y q' e h' => by
        rw [List.getElem?_eq_getElem hlt] at e
        obtain rfl := Option.some.inj e
        rw [HA.out.eq h']
      have Hlen : Hid (ss[k].length ≤ maxLen) := strKeys_le hown Tryz.underlying9 _ hin
      clear hR hown hin hlook hAt
      generalize hx : ss[k]'hlt = x at *
      clear hx
      go_wp2_with fail
      go_quiet (fail)
      go_wp2_with fail
      all_goals first
        | (have hno : okKV x q = false := by
             cases h : okKV x q with
             | false => rfl
             | true => simp [okKV, inB] at h; omega
           go_ret
           exact ⟨BoolIff.no (fun h => by have := h.2.1.2 x q HA.out; rw [hno] at this; cases this), below_drewN Hb1.out _⟩)
        | (have hyes : okKV x q = true := by simp [okKV, inB]; omega
           go_roundw
           case rel => exact ⟨k + 1, _, by omega, by go_num, rfl, fun j y hj hy q' h' => by
             rcases Nat.lt_or_ge j k with hjk | hjk
             · exact Hall.out j y hjk hy q' h'
             · have e : j = k := by omega
               rw [e] at hy
               rw [HX.out y q' hy h']; exact hyes⟩
           case measure => simp [intOf]; omega)
    · have hss : Hid (∀ x q, At D x q → okKV x q = true) := fun x q hAt => by
        have hx : x ∈ ss := by
          rcases HM.out with ⟨_, rfl⟩ | ⟨b, n, _, h2, _⟩
          · have := hAt.has; simp [Maps.has] at this
          · exact HP.out.mem_iff.2 ((mem_strKeys h2 x).2 hAt.has)
        obtain ⟨j, hj, rfl⟩ := List.mem_iff_getElem.1 hx
        exact Hall.out j _ (by omega) (List.getElem?_eq_getElem hj) q hAt
      have hsz : Hid (ss.length = Maps.size D) := by
        rcases HM.out with ⟨_, rfl⟩ | ⟨b, n, _, h2, _⟩
        · exact HP.out.length_eq
        · rw [← size_strKeys h2]; exact HP.out.length_eq
      have hgood : Hid ((c.firstB ss.length && c.timesB && c.restB) = true ↔ GoodC c D) := by
        show _ ↔ _
        rw [Cfg.good_iff]
        unfold GoodC GoodQ
        rw [← hsz.out]
        exact ⟨fun h => ⟨h.1, ⟨h.2.1, hss.out⟩, h.2.2⟩, fun h => ⟨h.1, h.2.1.1, h.2.2⟩⟩
      have e0 : w1.cell? ⟨w.heap.size, 0, none⟩ = some (.int .i64 c.d) := HK.out.cell 0
      have e2 : w1.cell? ⟨w.heap.size, 2, none⟩ = some (.int .i64 c.q) := HK.out.cell 2
      have e3 : w1.cell? ⟨w.heap.size, 3, none⟩ = some (.int .i64 c.at') := HK.out.cell 3
      have e4 : w1.cell? ⟨w.heap.size, 4, none⟩ = some (.int .i64 c.ba) := HK.out.cell 4
      have e5 : w1.cell? ⟨w.heap.size, 5, none⟩ = some (.int .i64 c.ca) := HK.out.cell 5
      have e6 : w1.cell? ⟨w.heap.size, 6, none⟩ = some (.int .i64 c.ti) := HK.out.cell 6
      have e7 : w1.cell? ⟨w.heap.size, 7, none⟩ = some (.int .i64 c.wi) := HK.out.cell 7
      have e8 : w1.cell? ⟨w.heap.size, 8, none⟩ = some (.int .i64 c.le) := HK.out.cell 8
      have e9 : w1.cell? ⟨w.heap.size, 9, none⟩ = some (.float .f64 c.th) := HK.out.cell 9
      have e10 : w1.cell? ⟨w.heap.size, 10, none⟩ = some (.int .i64 c.op) := HK.out.cell 10
      go_upto_region 8 with fail
      go_cut [6] (fun s6 wx => s6 = .bool (c.firstB ss.length) ∧ wx = w1.drewN nd)
      case first =>
        go_wp2_with fail
        all_goals (go_meet; exact ⟨congrArg Value.bool (Bool.eq_iff_iff.2 (by simp [Cfg.firstB]; omega)), rfl⟩)
      case rest =>
        obtain ⟨rfl, rfl⟩ := hcut
        go_upto_region 9 with fail
        go_cut [7] (fun s7 wx => s7 = .bool c.timesB ∧ wx = w1.drewN nd)
        case first =>
          go_wp2_with fail
          all_goals (go_meet; exact ⟨congrArg Value.bool (Bool.eq_iff_iff.2 (by simp [Cfg.timesB]; omega)), rfl⟩)
        case rest =>
          obtain ⟨rfl, rfl⟩ := hcut
          cases h1 : c.firstB ss.length
          · go_wp2_with fail
            go_ret
            exact ⟨BoolIff.no (fun h => by have := hgood.out.2 h; rw [h1] at this; cases this), below_drewN Hb1.out _⟩
          cases h2 : c.timesB
          · go_wp2_with fail
            go_ret
            exact ⟨BoolIff.no (fun h => by have := hgood.out.2 h; rw [h1, h2] at this; cases this), below_drewN Hb1.out _⟩
          have Hr : Hid (c.restB = true ↔ GoodC c D) := by
            have := hgood.out
            rw [h1, h2] at this
            exact (show c.restB = true ↔ GoodC c D by simpa using this)
          clear hgood
          go_wp2_with fail
          all_goals
            go_ret
            refine ⟨BoolIff.mk ?_, below_drewN Hb1.out _⟩
            rw [← Hr.out]
            first
              | (simp [Cfg.restB, thB, *]; done)
              | (simp [Cfg.restB, thB, *]; omega)
end Go.Proofs.YtojpjaifhjigfaaGreatDoor

/- sameMaps: of two maps that read alike the answer is true. -/
namespace Go.Proofs.YtojpjaifhjigfaaGreatDoor
open Go.RowKit Go.Maps

set_option maxHeartbeats 400000 in
theorem same_nil (c : Cfg) (w : World) : Calls Tryz.prog 42 #[.map none, c.val none] w fun e w' => e = .returned (.bool true) ∧ Below w.heap.size w w' := by
  have hlen := fun (W : World) ty => Maps.len_nil (P := Tryz.prog) (w := W) (k := 9) (t := 22) (e := 3) Tryz.underlying22 ty
  have hrg := run_range_nilMap (P := Tryz.prog) (w.alloc (.cells (c.cells none) 25)) 22 9 3 Tryz.underlying22
  have hnx : ∀ ty, (Instr.next (.pointer (some ⟨(w.alloc (.cells (c.cells none) 25)).heap.size, 0, none⟩)) false ty).run Tryz.prog ((w.alloc (.cells (c.cells none) 25)).alloc (.mapIter none 0 #[] 0)) = _ := fun ty => run_next_nilMap _ ty 0 0 #[]
  rw [World.size_alloc] at hrg hnx
  go_enter Tryz.func42, Tryz.ntmps42
  go_wp2
  refine wp_loop_rounds 1 ?_
  rw [rounds_succ]
  go_wp2
  go_ret
  exact ⟨rfl, ((Below.refl _ _).alloc (Nat.le_refl _) _).alloc (by simp) _⟩

set_option maxRecDepth 100000 in
set_option maxHeartbeats 1000000 in
theorem same_some (c : Cfg) (b1 b2 n1 n2 : Nat) (D : DataW Unit) (w : World) (h1 : OM w b1 n1 D) (h2 : OM w b2 n2 D) :
    Calls Tryz.prog 42 #[.map (some b1), c.val (some b2)] w fun e w' => e = .returned (.bool true) ∧ Below w.heap.size w w' := by
  have H1 := hide h1
  have H2 := hide h2
  have hl1 := h1.lt
  have hl2 := h2.lt
  have k1 := h1.alloc (.cells (c.cells (some b2)) 25)
  have k2 := h2.alloc (.cells (c.cells (some b2)) 25)
  go_enter Tryz.func42, Tryz.ntmps42
  go_wp2_with (first
    | (at_len; refine wpList_len_own _ rfl _ 22 rfl 9 3 Tryz.underlying22 _ b1 n1 _ rfl k1 ?_)
    | (at_len; refine wpList_len_own _ rfl _ 22 rfl 9 3 Tryz.underlying22 _ b2 n2 _ rfl k2 ?_)
    | (at_range; refine wpList_range_own _ rfl _ 22 rfl 9 3 lawS Tryz.underlying22 _ b2 n2 _ rfl k2 ?_; intro w0 hrg0 hg0 hs0)
    | fail)
  go_frame
  simp only [World.size_alloc] at hrg0 ⊢
  have hb0 : Below w.heap.size w w0 := ((Below.refl _ _).alloc (Nat.le_refl _) _).grown hg0 (by simp) (fun j hj => by cases hj)
  have Hb0 := hide hb0
  clear hb0 hg0 hs0 k1 k2 h1 h2
  go_loopw [5] (fun _ wr => ∃ (left : Lit → Bool) (cnt : Nat), RG wr b2 (w.heap.size + 1) n2 D left cnt ∧ Below w.heap.size w wr) (fun _ wr => wr.rangeLeft b2 (w.heap.size + 1))
  case atStart => exact ⟨_, _, hrg0, Hb0.out⟩
  case round =>
    obtain ⟨left, cnt, hrg, hnx⟩ := hrel
    have Hnx := hide hnx
    clear hnx
    go_wp2_with (first
      | (at_next; refine wpList_next_ranges _ rfl _ rfl 9 lawS (plainElem Tryz.prog 3) encStr (Value.int .i64) invK invV b2 (w.heap.size + 1) n2 _ _ _ rfl hrg ?_ ?_)
      | fail)
    · intro hc0 hl0
      clear hl0
      go_wp2_with fail
      go_ret
      exact ⟨rfl, Hnx.out⟩
    · intro x q kl yd yp w2 cnt2 hkey hlk hv hat hrg2 hlt hg2 hs2 hen
      obtain ⟨x', ex, rfl, hxl⟩ := Maps.keyOf_str Tryz.underlying9 hkey
      obtain rfl : x = x' := encStr_inj ex
      obtain ⟨c', ec, ey, _⟩ := plainElem_int_inv Tryz.underlying3 hv
      obtain rfl : q = c' := by simpa using ec
      obtain ⟨rfl, rfl⟩ : yd = .lit (.int .i64 q) ∧ yp = [] := by simpa using ey
      have hAt : At D x q := hat
      have hhas := hAt.has
      have HAt := hide hAt
      have Hb2 : Hid (Below w.heap.size w w2) := Hnx.out.grown hg2 Hnx.out.size (fun j hj => by cases hj; omega)
      have Hrg2 := hide hrg2
      have HM : Hid (cnt2 < wr.rangeLeft b2 (w.heap.size + 1)) := by rw [hrg.left_eq]; exact hlt
      have hown1 : OM w2 b1 n1 D := om_below H1.out Hb2.out hl1
      clear hAt hat hlk hv ex ec ey hs2 hlt hg2 hrg2
      go_wp2_with (first
        | (at_lookup; refine wpList_lookup_own_ok_int _ rfl _ _ 22 rfl 9 3 .i64 lawS Tryz.underlying22 Tryz.underlying3 (zeroInt _) b1 n1 _ rfl hown1 _ _ rfl hkey ?_; intro q' hq' hwq; obtain rfl : q' = q := (by have := hq'.symm.trans (HAt.out (.lit (.int .i64 0))); simpa using this))
        | fail)
      go_roundw
      case rel => exact ⟨_, cnt2, Hrg2.out, Hb2.out⟩
      case measure => rw [Hrg2.out.left_eq]; exact HM.out
end Go.Proofs.YtojpjaifhjigfaaGreatDoor

/- conduitlaw.config and example: a configuration with its tenants. -/
namespace Go.Proofs.YtojpjaifhjigfaaGreatDoor
open Go.RowKit Go.Maps
attribute [local go_sem] run_store_float

theorem infoConfig : (Tryz.prog.info? 25).map (·.size) = some 11 := by kernel_rfl

theorem splice_all (cs : Array Value) (vs : Array Value) (h : cs.size = vs.size) : splice cs 0 vs.toList = vs := by
  have key : ∀ (l : List Value) (cs : Array Value) (o : Nat), cs.size = o + l.length → (splice cs o l).toList = cs.toList.take o ++ l := by
    intro l
    induction l with
    | nil => intro cs o h; simp only [splice, List.append_nil]; rw [List.take_of_length_le]; simp at h; simp [h]
    | cons v r ih =>
      intro cs o h
      simp only [splice]
      simp at h
      rw [ih _ _ (by simp; omega)]
      simp only [Array.toList_setIfInBounds]
      rw [List.take_succ_eq_append_getElem (by simp; omega), List.take_set_of_le (by omega)]
      simp
  have := key vs.toList cs 0 (by simpa using h)
  apply Array.toList_inj.1
  simpa using this
theorem cfgOne (c : Cfg) (m : Option Nat) : (c.cells m).all (·.oneCell') = true := by simp [Value.oneCell']

/-- A list of tenants lies behind this slice. -/
def TenAt (w : World) (a : Option Addr) (ts : List (List UInt8 × Int)) : Prop := ts = [] ∨ ∃ b off, a = some ⟨b, off, none⟩ ∧ b < w.heap.size ∧
  ∀ k (h : k < ts.length), w.cell? ⟨b, off + k * 2, none⟩ = some (encStr (ts[k]'h).1) ∧ w.cell? ⟨b, off + k * 2 + 1, none⟩ = some (.int .i64 (ts[k]'h).2)
def TenOk (ts : List (List UInt8 × Int)) : Prop := (∀ p ∈ ts, p.1.length ≤ maxLen ∧ (Lit.int .i64 p.2).wf = true) ∧ ts.length ≤ big
/-- What the map of a list of tenants reads as. -/
def DT (ts : List (List UInt8 × Int)) : DataW Unit := ts.foldl (fun D p => D.put (.string p.1) (.lit (.int .i64 p.2))) (.map [])
theorem DT_snoc (ts : List (List UInt8 × Int)) (p : List UInt8 × Int) : DT (ts ++ [p]) = (DT ts).put (.string p.1) (.lit (.int .i64 p.2)) := by simp [DT, List.foldl_append]

/-- The map value of a list of tenants (nil, if there is none). -/
abbrev mapV (ts : List (List UInt8 × Int)) (b : Nat) : Option Nat := if ts = [] then none else some b

theorem om_new {V : World} {n : Nat} (h : V.heap.size = n) : OM (V.alloc (.map #[] 0)) n 0 (.map []) := h ▸ World.ownsMap_made (H := Unit) V Tryz.prog 9 (plainElem Tryz.prog 3)

set_option maxRecDepth 100000 in
set_option maxHeartbeats 400000 in
theorem config_nil (c : Cfg) (m : Option Nat) (a : Option Addr) (cap : Nat) (w : World) : Calls Tryz.prog 15 #[c.val m, .slice a 0 cap] w fun e w' => e = .returned (c.val none) ∧ Below w.heap.size w w' := by
  go_enter Tryz.func15, Tryz.ntmps15
  go_wp2
  refine wp_loop_rounds 1 ?_
  rw [rounds_succ]
  go_wp2
  exact bodyPost_ret (v := c.val none) (by simp [results, Tryz.results15, go_sem]) rfl ⟨rfl, ((Below.refl _ _).alloc (Nat.le_refl _) _).alloc (by simp) _⟩

set_option maxRecDepth 100000 in
set_option maxHeartbeats 400000 in
theorem config_some (c : Cfg) (m : Option Nat) (b off cap : Nat) (ts : List (List UInt8 × Int)) (w : World) (h0 : 0 < ts.length) (hb : b < w.heap.size) (hok : TenOk ts)
    (hc : ∀ k (h : k < ts.length), w.cell? ⟨b, off + k * 2, none⟩ = some (encStr (ts[k]'h).1) ∧ w.cell? ⟨b, off + k * 2 + 1, none⟩ = some (.int .i64 (ts[k]'h).2)) :
    Calls Tryz.prog 15 #[c.val m, .slice (some ⟨b, off, none⟩) ts.length cap] w fun e w' => ∃ b', e = .returned (c.val (some b')) ∧ w.heap.size ≤ b' ∧ OM w' b' ts.length (DT ts) ∧ Below w.heap.size w w' := by
  have hmm := @run_makeMap Tryz.prog
  have HC := hide hc
  have HO := hide hok
  have hbig : (ts.length : Int) ≤ 8796093022208 := by have := hok.2; unfold big at this; omega
  have h0I : (0 : Int) < (ts.length : Int) := by omega
  clear hc hok
  go_enter Tryz.func15, Tryz.ntmps15
  go_wp2_with fail
  generalize hW : World.alloc (World.alloc (World.alloc w _) _) (Obj.map #[] 0) = W
  have hbW : Below w.heap.size w W := by rw [← hW]; exact (((Below.refl _ _).alloc (Nat.le_refl _) _).alloc (by simp) _).alloc (by simp; omega) _
  have hm0 : OM W (w.heap.size + 1 + 1) 0 (.map []) := by rw [← hW]; exact om_new (by simp)
  have hk0 : Blk W w.heap.size (c.cells (some (w.heap.size + 1 + 1))) 25 := by rw [← hW]; exact ((Blk.new w _ _).alloc _).alloc _
  have hk1 : ∃ cs, Blk W (w.heap.size + 1) cs 25 ∧ cs.size = 11 := by rw [← hW]; exact ⟨_, (Blk.made (by simp) _ _).alloc _, rfl⟩
  have Hk0 := hide hk0
  have Hk1 := hide hk1
  have Hm0 := hide hm0
  have HbW := hide hbW
  clear hW hbW hm0 hk0 hk1
  go_loopw [5] (fun i wr => ∃ k : Nat, k ≤ ts.length ∧ i = .int .i64 k ∧ OM wr (w.heap.size + 1 + 1) k (DT (ts.take k)) ∧ Blk wr w.heap.size (c.cells (some (w.heap.size + 1 + 1))) 25 ∧
      (∃ cs, Blk wr (w.heap.size + 1) cs 25 ∧ cs.size = 11) ∧ Below w.heap.size w wr) (fun i _ => ts.length - (intOf i).toNat)
  case atStart => exact ⟨0, Nat.zero_le _, rfl, Hm0.out, Hk0.out, Hk1.out, HbW.out⟩
  case round =>
    obtain ⟨k, hk, rfl, hm, hb0, hb1, hnx⟩ := hrel
    have Hb0 := hide hb0
    have Hb1 := hide hb1
    have Hnx := hide hnx
    by_cases hlt : k < ts.length
    · have hltI : (k : Int) < (ts.length : Int) := by omega
      obtain ⟨c1, c2⟩ := HC.out k hlt
      have e1 : wr.cell? ⟨b, off + k * 2, none⟩ = some (encStr (ts[k]'hlt).1) := by rw [hnx.cell (p := ⟨b, _, none⟩) hb]; exact c1
      have e2 : wr.cell? ⟨b, off + k * 2 + 1, none⟩ = some (.int .i64 (ts[k]'hlt).2) := by rw [hnx.cell (p := ⟨b, _, none⟩) hb]; exact c2
      have e3 : wr.cell? ⟨w.heap.size, 1, none⟩ = some (.map (some (w.heap.size + 1 + 1))) := hb0.cell 1
      obtain ⟨o1, o2⟩ := HO.out.1 (ts[k]'hlt) (List.getElem_mem hlt)
      obtain ⟨w2, hrun, hm2, hg2⟩ := (hm.drew).update lawS Tryz.underlying22 (by unfold maxLen; omega) (keyOfStr o1) (plainElem_int Tryz.underlying3 o2)
      have hwl : w.heap.size ≤ wr.heap.size := hnx.size
      have f1 : w2.cell? ⟨b, off + k * 2, none⟩ = some (encStr (ts[k]'hlt).1) := by rw [World.cell?_of_block (w := wr.drew) (a := ⟨b, _, none⟩) (hg2.block b (Nat.lt_of_lt_of_le hb hwl) (by simp; omega))]; exact e1
      have f2 : w2.cell? ⟨b, off + k * 2 + 1, none⟩ = some (.int .i64 (ts[k]'hlt).2) := by rw [World.cell?_of_block (w := wr.drew) (a := ⟨b, _, none⟩) (hg2.block b (Nat.lt_of_lt_of_le hb hwl) (by simp; omega))]; exact e2
      have f3 : w2.cell? ⟨w.heap.size, 1, none⟩ = some (.map (some (w.heap.size + 1 + 1))) := by rw [World.cell?_of_block (w := wr.drew) (a := ⟨w.heap.size, _, none⟩) (hg2.block _ hb0.lt (by simp; omega))]; exact e3
      have Hm2 := hide hm2
      have Hg2 := hide hg2
      clear c1 c2 hm hb0 hb1 hnx hm2 hg2
      go_wp2_with fail
      go_region_held3 (fun w' => w'.cell? ⟨b, off + k * 2, none⟩ = some (encStr (ts[k]'hlt).1) ∧ w'.cell? ⟨b, off + k * 2 + 1, none⟩ = some (.int .i64 (ts[k]'hlt).2) ∧ w'.cell? ⟨w.heap.size, 1, none⟩ = some (.map (some (w.heap.size + 1 + 1)))) (go_keep)
        (fail)
      go_wp2_with fail
      go_roundw
      case rel =>
        refine ⟨k + 1, by omega, by go_num, ?_, Hb0.out.grown (w := wr.drew) Hg2.out (by simp; omega), ?_, ?_⟩
        · rw [List.take_succ_eq_append_getElem hlt, DT_snoc]; exact Hm2.out
        · obtain ⟨cs, h1, h2⟩ := Hb1.out
          exact ⟨cs, Blk.grown (w := wr.drew) h1 Hg2.out (by simp), h2⟩
        · exact (Hnx.out.drew).grown Hg2.out Hnx.out.size (fun j hj => by cases hj; omega)
      case measure => simp [intOf]; omega
    · have Hk : Hid (ts.take k = ts) := List.take_of_length_le (by omega)
      have Hm := hide hm
      obtain ⟨cs, hcs, hcz⟩ := Hb1.out
      clear hm hb1 hnx
      go_wp2_with (first
        | (refine wpList_load_mid rfl 25 _ rfl w.heap.size 0 rfl (c.cells (some (w.heap.size + 1 + 1))).toList _ (Hb0.out.range 0 _ rfl) Tryz.underlying25 rfl infoConfig ?_)
        | (refine wpList_store_mid rfl 25 _ _ rfl (w.heap.size + 1) 0 (c.cells (some (w.heap.size + 1 + 1))) rfl rfl (hcs.there 0 11 (by omega)) infoConfig (cfgOne c _) ?_)
        | fail)
      have hsp : splice cs 0 (c.cells (some (w.heap.size + 1 + 1))).toList = c.cells (some (w.heap.size + 1 + 1)) := splice_all cs _ (by simpa using hcz)
      have hfin : Blk (wr.setCells (w.heap.size + 1) 0 (c.cells (some (w.heap.size + 1 + 1))).toList) (w.heap.size + 1) (c.cells (some (w.heap.size + 1 + 1))) 25 := by
        have h := Blk.setCells (c.cells (some (w.heap.size + 1 + 1))).toList 0 hcs
        rw [hsp] at h
        exact h
      refine bodyPost_ret (v := c.val (some (w.heap.size + 1 + 1))) (results_cell1 Tryz.results15 rfl (run_loadVar_mid _ _ 0 25 (c.cells (some (w.heap.size + 1 + 1))).toList _ (hfin.range 0 _ rfl) Tryz.underlying25 rfl infoConfig)) rfl ⟨_, rfl, by omega, ?_, below_setCells (by omega) _ 0 Hnx.out⟩
      have h2 := Hm.out
      rw [Hk.out] at h2
      obtain ⟨es, clock, k1, k2⟩ := h2.mono (by omega : k ≤ ts.length)
      exact ⟨es, clock, by rw [heap_setCells _ 0 (by omega)]; exact k1, k2⟩

theorem config_any (c : Cfg) (m : Option Nat) (a : Option Addr) (cap : Nat) (ts : List (List UInt8 × Int)) (w : World) (hok : TenOk ts) (h : TenAt w a ts) :
    Calls Tryz.prog 15 #[c.val m, .slice a ts.length cap] w fun e w' => ∃ m', e = .returned (c.val m') ∧ MapAt w' m' (DT ts) ∧ (∀ b, m' = some b → w.heap.size ≤ b) ∧ Below w.heap.size w w' := by
  rcases h with rfl | ⟨b, off, rfl, hb, hc⟩
  · refine (config_nil c m a cap w).mono ?_
    rintro e w' ⟨rfl, hb⟩
    exact ⟨none, rfl, Or.inl ⟨rfl, rfl⟩, fun b h => (by cases h), hb⟩
  · by_cases h0 : 0 < ts.length
    · refine (config_some c m b off cap ts w h0 hb hok hc).mono ?_
      rintro e w' ⟨b', rfl, h1, h2, h3⟩
      exact ⟨some b', rfl, Or.inr ⟨b', _, rfl, h2, hok.2⟩, fun b h => (by cases h; exact h1), h3⟩
    · have e : ts = [] := List.eq_nil_of_length_eq_zero (by omega)
      subst e
      refine (config_nil c m _ cap w).mono ?_
      rintro e w' ⟨rfl, hb⟩
      exact ⟨none, rfl, Or.inl ⟨rfl, rfl⟩, fun b h => (by cases h), hb⟩
end Go.Proofs.YtojpjaifhjigfaaGreatDoor

/- conduitlaw.example and pick: DOC.md's configuration. -/
namespace Go.Proofs.YtojpjaifhjigfaaGreatDoor
open Go.RowKit Go.Maps
attribute [local go_sem] run_store_float

def exCfg : Cfg := { d := 1, q := 9, at' := 2, ba := 10, ca := 100, ti := 50, wi := 4, le := 2, th := 4604930618986332160, op := 200 }
def exTs : List (List UInt8 × Int) := [([97], 64), ([98], 64)]

theorem ex_ok : TenOk exTs := ⟨fun p hp => by
  simp only [exTs, List.mem_cons, List.not_mem_nil, or_false] at hp
  rcases hp with rfl | rfl <;> exact ⟨by simp [maxLen], by decide⟩, by simp [exTs, big]⟩

set_option maxRecDepth 100000 in
set_option maxHeartbeats 400000 in
theorem example_any (w : World) : Calls Tryz.prog 14 #[] w fun e w' => ∃ g, e = .returned (.tuple #[exCfg.val none, .slice (some ⟨g, 0, none⟩) 2 2]) ∧ TenAt w' (some ⟨g, 0, none⟩) exTs ∧ Below w.heap.size w w' := by
  go_enter Tryz.func14, Tryz.ntmps14
  go_wp2
  generalize hV : World.alloc w _ = V
  have hz : V.heap.size = w.heap.size + 1 := by rw [← hV]; simp
  have hk : Blk V w.heap.size (exCfg.cells none) 25 := by rw [← hV]; exact Blk.new w _ _
  have hbV : Below w.heap.size w V := by rw [← hV]; exact (Below.refl _ _).alloc (Nat.le_refl _) _
  clear hV
  refine bodyPost_ret (v := .tuple #[exCfg.val none, .slice (some ⟨w.heap.size + 1, 0, none⟩) 2 2]) ?_ rfl ⟨_, rfl, Or.inr ⟨_, 0, rfl, by simp; omega, ?_⟩, hbV.alloc (by omega) _⟩
  · rw [results_cell_tmp Tryz.results14]
    have hl := run_loadVar_mid (P := Tryz.prog) (V.alloc (Obj.cells #[Value.string { data := #[97] }, Value.int IntKind.i64 64, Value.string { data := #[98] }, Value.int IntKind.i64 64] 94)) w.heap.size 0 25 (exCfg.cells none).toList _ ((hk.alloc _).range 0 _ rfl) Tryz.underlying25 rfl infoConfig
    simp [asAddr, hl]
  · have hn := Blk.made hz #[Value.string { data := #[97] }, Value.int IntKind.i64 64, Value.string { data := #[98] }, Value.int IntKind.i64 64] 94
    intro k h
    have hk2 : k < 2 := h
    rw [hn.cell, hn.cell]
    match k, hk2 with
    | 0, _ => exact ⟨rfl, rfl⟩
    | 1, _ => exact ⟨rfl, rfl⟩

theorem ex_at (x : List UInt8) (c : Int) (h : At (DT exTs) x c) : okKV x c = true := by
  have h0 := h .nil
  have e : DT exTs = .map [(.string [97], .lit (.int .i64 64)), (.string [98], .lit (.int .i64 64))] := by kernel_rfl
  rw [e] at h0
  by_cases h1 : [97] = x
  · subst h1
    have : c = 64 := by simpa [DataW.atKey, Lit.sameKey] using h0.symm
    subst this; decide
  · by_cases h2 : [98] = x
    · subst h2
      have : c = 64 := by simpa [DataW.atKey, Lit.sameKey] using h0.symm
      subst this; decide
    · simp [DataW.atKey, Lit.sameKey, h1, h2] at h0

theorem ex_good : GoodC exCfg (DT exTs) := ⟨by decide, ⟨by decide, ex_at⟩, by kernel_rfl⟩

end Go.Proofs.YtojpjaifhjigfaaGreatDoor

/- conduitref.Open of no batches: the document's agent, in new memory. -/
namespace Go.Proofs.YtojpjaifhjigfaaGreatDoor
open Go.RowKit Go.Maps
attribute [local go_sem] run_store_float

theorem infoInt : (Tryz.prog.info? 3).map (fun i => (i.zero, i.size, i.bytes)) = some (some (.int .i64 0), 1, 8) := by kernel_rfl
theorem infoLine : (Tryz.prog.info? 159).map (fun i => (i.zero, i.size, i.bytes)) = some (some (.agg #[.int .i64 0, .int .i64 0, .bool false, .int .i64 0, .int .i64 0, .slice none 0 0, .int .i64 0, .int .i64 0, .int .i64 0]), 9, 88) := by kernel_rfl

/-- The cells of the document's agent. -/
abbrev refCells (c : Cfg) (m : Option Nat) (nv qv bv dv lv : Value) (t : Int) : Array Value :=
  #[.int .i64 c.d, .map m, .int .i64 c.q, .int .i64 c.at', .int .i64 c.ba, .int .i64 c.ca, .int .i64 c.ti, .int .i64 c.wi, .int .i64 c.le, .float .f64 c.th, .int .i64 c.op, nv, qv, bv, dv, lv, .int .i64 t]

end Go.Proofs.YtojpjaifhjigfaaGreatDoor

/- Who owns which block: a ghost labelling of the heap; rows, blocks and maps with their labels; what a step leaves as it was. -/
namespace Go.Proofs.YtojpjaifhjigfaaGreatDoor
open Go.RowKit Go.Maps

/-- What a block is to its owner. -/
inductive Part where
  | ag | tk | qm | qr (d : Int) (t : List UInt8) | dd | nm | rt | ol | cr (d : Nat) | th (d : Nat) | cm | ot (k n : Nat)

/-- Nobody's, or an owner's. -/
abbrev Lab := Option (Nat × Part)
abbrev Labs := Nat → Lab

/-- One block more has a label. -/
def lay (L : Labs) (g : Nat) (l : Lab) : Labs := fun k => if k = g then l else L k
theorem lay_same (L : Labs) (g : Nat) (l : Lab) : lay L g l g = l := by simp [lay]
theorem lay_other (L : Labs) {g k : Nat} (l : Lab) (h : k ≠ g) : lay L g l k = L k := by simp [lay, h]
theorem lay_below {L : Labs} {g : Nat} {l : Lab} {n : Nat} (h : L g = l ∨ n ≤ g) : ∀ k, k < n → lay L g l k = L k := fun k hk => by
  by_cases e : k = g
  · subst e
    rcases h with h | h
    · rw [lay_same, h]
    · omega
  · exact lay_other L l e

/-- Of the blocks that were there only such turn whose label is of p; the labels stay. -/
structure Step (p : Lab → Prop) (L : Labs) (w : World) (L' : Labs) (w' : World) : Prop where
  os : w'.os = w.os
  tape : w'.tape = w.tape
  output : w'.output = w.output
  size : w.heap.size ≤ w'.heap.size
  lab : ∀ k, k < w.heap.size → L' k = L k
  block : ∀ k, k < w.heap.size → ¬ p (L k) → w'.heap[k]? = w.heap[k]?

theorem Step.refl (p : Lab → Prop) (L : Labs) (w : World) : Step p L w L w := ⟨rfl, rfl, rfl, Nat.le_refl _, fun _ _ => rfl, fun _ _ _ => rfl⟩
theorem Step.trans {p : Lab → Prop} {L L1 L2 : Labs} {w w1 w2 : World} (h : Step p L w L1 w1) (k : Step p L1 w1 L2 w2) : Step p L w L2 w2 :=
  ⟨k.os.trans h.os, k.tape.trans h.tape, k.output.trans h.output, Nat.le_trans h.size k.size, fun i hi => (k.lab i (Nat.lt_of_lt_of_le hi h.size)).trans (h.lab i hi),
   fun i hi hp => (k.block i (Nat.lt_of_lt_of_le hi h.size) (by rw [h.lab i hi]; exact hp)).trans (h.block i hi hp)⟩
theorem Step.mono {p q : Lab → Prop} {L L1 : Labs} {w w1 : World} (h : Step p L w L1 w1) (hpq : ∀ l, p l → q l) : Step q L w L1 w1 := ⟨h.os, h.tape, h.output, h.size, h.lab, fun k hk hn => h.block k hk (fun hp => hn (hpq _ hp))⟩
theorem Step.of_below {p : Lab → Prop} {L : Labs} {w w' : World} (h : Below w.heap.size w w') : Step p L w L w' := ⟨h.os, h.tape, h.output, h.size, fun _ _ => rfl, fun k hk _ => h.block k hk⟩
theorem Step.of_below' {p : Lab → Prop} {L L' : Labs} {w w' : World} (h : Below w.heap.size w w') (hl : ∀ k, k < w.heap.size → L' k = L k) : Step p L w L' w' := ⟨h.os, h.tape, h.output, h.size, hl, fun k hk _ => h.block k hk⟩
theorem Step.of_grown {p : Lab → Prop} {L L' : Labs} {w w' : World} {row : Option Nat} (h : w.grownBy w' row) (hr : ∀ j, row = some j → p (L j)) (hl : ∀ k, k < w.heap.size → L' k = L k) : Step p L w L' w' :=
  ⟨h.os, h.tape, h.output, h.size, hl, fun k hk hn => h.block k hk (fun e => hn (hr k e.symm))⟩
theorem Step.setCell {p : Lab → Prop} (L : Labs) (w : World) (a : Addr) (v : Value) (hp : p (L a.block)) : Step p L w L (w.setCell a v) :=
  ⟨rfl, rfl, rfl, by simp [World.setCell], fun _ _ => rfl, fun k _ hn => Below.heap_setCell _ _ _ _ (fun e => hn (by rw [e]; exact hp))⟩
theorem Step.setCells {p : Lab → Prop} (L : Labs) {b : Nat} (hp : p (L b)) (vs : List Value) : ∀ (w : World) (o : Nat), Step p L w L (w.setCells b o vs) := by
  induction vs with
  | nil => exact fun w _ => Step.refl p L w
  | cons v r ih => exact fun w o => (Step.setCell L w ⟨b, o, none⟩ v hp).trans (ih _ (o + 1))
theorem Step.alloc {p : Lab → Prop} (L : Labs) (w : World) (o : Obj) : Step p L w L (w.alloc o) := Step.of_below ((Below.refl _ _).alloc (Nat.le_refl _) o)
theorem Step.drew {p : Lab → Prop} (L : Labs) (w : World) : Step p L w L w.drew := ⟨rfl, rfl, rfl, Nat.le_refl _, fun _ _ => rfl, fun _ _ _ => rfl⟩
theorem Step.drewN {p : Lab → Prop} (L : Labs) (w : World) (n : Nat) : Step p L w L (w.drewN n) := ⟨rfl, rfl, rfl, Nat.le_refl _, fun _ _ => rfl, fun _ _ _ => rfl⟩
theorem Step.below {p : Lab → Prop} {L L' : Labs} {w w' : World} (h : Step p L w L' w') {B : Nat} (hB : B ≤ w.heap.size) (hn : ∀ k, k < B → ¬ p (L k)) : Below B w w' := ⟨h.os, h.tape, h.output, h.size, fun k hk => h.block k (by omega) (hn k hk)⟩

/-- A block with its label. -/
def BlkAt (w : World) (L : Labs) (l : Lab) (g : Nat) (cur : Array Value) (e : TypeId) : Prop := Blk w g cur e ∧ L g = l
theorem BlkAt.keep {w w' : World} {L L' : Labs} {l : Lab} {g : Nat} {cur : Array Value} {e : TypeId} (h : BlkAt w L l g cur e) {p : Lab → Prop} (s : Step p L w L' w') (hp : ¬ p l) : BlkAt w' L' l g cur e := by
  obtain ⟨h1, h2⟩ := h
  refine ⟨?_, (s.lab g h1.lt).trans h2⟩
  unfold Blk
  rw [s.block g h1.lt (by rw [h2]; exact hp)]
  exact h1

/-- A row with its label. -/
def RowAt (w : World) (L : Labs) (l : Lab) (e : TypeId) (size : Nat) (v : Value) (n : Nat) (xs : List Value) : Prop := w.ownsRow 0 e size v n xs ∧ ∀ g, v.ownBlock = some g → L g = l
theorem RowAt.keep {w w' : World} {L L' : Labs} {l : Lab} {e : TypeId} {size : Nat} {v : Value} {n : Nat} {xs : List Value} (h : RowAt w L l e size v n xs) {p : Lab → Prop} (s : Step p L w L' w') (hp : ¬ p l) : RowAt w' L' l e size v n xs := by
  obtain ⟨⟨h1, h2⟩, h3⟩ := h
  rcases h2 with ⟨rfl, h2⟩ | ⟨g, cap, cur, rfl, hg, hb, r⟩
  · exact ⟨⟨h1, Or.inl ⟨rfl, h2⟩⟩, fun g hg => by simp [Value.ownBlock] at hg⟩
  · have hlt := (Array.getElem?_eq_some_iff.1 hb).1
    have hl := h3 g (by simp [Value.ownBlock])
    refine ⟨⟨h1, Or.inr ⟨g, cap, cur, rfl, hg, ?_, r⟩⟩, fun g' hg' => ?_⟩
    · rw [s.block g hlt (by rw [hl]; exact hp)]; exact hb
    · obtain rfl : g = g' := by simpa [Value.ownBlock] using hg'
      exact (s.lab g hlt).trans hl
theorem RowAt.nil (w : World) (L : Labs) (l : Lab) (e : TypeId) (size : Nat) : RowAt w L l e size (.slice none 0 0) 0 [] := ⟨World.ownsRow_nil _ _ _ _, fun g hg => by simp [Value.ownBlock] at hg⟩
theorem RowAt.shape {w : World} {L : Labs} {l : Lab} {e : TypeId} {size : Nat} {v : Value} {n : Nat} {xs : List Value} (h : RowAt w L l e size v n xs) : ∃ a cap, v = .slice a n cap ∧ n ≤ maxLen := by
  rcases h.1.2 with ⟨rfl, rfl⟩ | ⟨g, cap, cur, rfl, _, _, h1, h2, _⟩
  · exact ⟨none, 0, rfl, Nat.zero_le _⟩
  · exact ⟨_, _, rfl, Nat.le_trans h1 h2⟩
/-- A row with something in it: where it lies, and each cell. -/
theorem RowAt.head {w : World} {L : Labs} {l : Lab} {e : TypeId} {size : Nat} {a : Option Addr} {k n : Nat} {xs : List Value} (h : RowAt w L l e size (.slice a n k) n xs) (h0 : 0 < n) :
    ∃ g, a = some ⟨g, 0, none⟩ ∧ g < w.heap.size ∧ L g = l ∧ (∀ i v, xs[i]? = some v → w.cell? ⟨g, i, none⟩ = some v) ∧ (∀ i, w.frozen? ⟨g, i, none⟩ = false) := by
  rcases h.1.2 with ⟨_, h1⟩ | ⟨g, cap, cur, h1, h2, h3, h4, h5, h6, h7⟩
  · omega
  · simp only [Value.slice.injEq, true_and] at h1
    obtain ⟨rfl, rfl⟩ := h1
    have hb : Blk w g cur e := h3
    refine ⟨g, rfl, hb.lt, h.2 g (by simp [Value.ownBlock]), fun i v hv => ?_, fun i => hb.frozen i⟩
    rw [hb.cell i]
    rw [← h7] at hv
    have hi : i < n * size := by
      have := (List.getElem?_eq_some_iff.1 hv).1
      rw [List.length_take] at this; omega
    rw [List.getElem?_take_of_lt hi] at hv
    simpa using hv
/-- A store into a row. -/
theorem RowAt.set {w : World} {L : Labs} {l : Lab} {e : TypeId} {size g k n : Nat} {xs : List Value} (h : RowAt w L l e size (.slice (some ⟨g, 0, none⟩) n k) n xs) (i : Nat) (u : Value) :
    RowAt (w.setCell ⟨g, i, none⟩ u) L l e size (.slice (some ⟨g, 0, none⟩) n k) n (xs.set i u) := by
  refine ⟨?_, h.2⟩
  obtain ⟨h1, h2⟩ := h.1
  refine ⟨by simpa using h1, ?_⟩
  rcases h2 with ⟨h2, _⟩ | ⟨g', cap, cur, h1', h2, h3, h4, h5, h6, h7⟩
  · cases h2
  · simp only [Value.slice.injEq, true_and, Option.some.injEq, Addr.mk.injEq, and_true] at h1'
    obtain ⟨rfl, rfl⟩ := h1'
    refine Or.inr ⟨g, k, cur.setIfInBounds i u, rfl, h2, heap_setCell_same w g i cur e u h3, h4, h5, by simpa using h6, ?_⟩
    rw [Array.toList_setIfInBounds, List.take_set, h7]
/-- Behind an append that says where the new row lies. -/
theorem RowAt.appended {w0 w' : World} {L : Labs} {l : Lab} {e : TypeId} {size g cap n m : Nat} {v : Value} {xs ys : List Value} (h : RowAt w0 L l e size v n xs) (hown : w'.ownsRow 0 e size (.slice (some ⟨g, 0, none⟩) m cap) m ys)
    (hat : v.ownBlock = some g ∨ w0.heap.size ≤ g) : RowAt w' (lay L g l) l e size (.slice (some ⟨g, 0, none⟩) m cap) m ys ∧ ∀ k, k < w0.heap.size → lay L g l k = L k := by
  refine ⟨⟨hown, fun g' hg' => ?_⟩, lay_below (hat.imp (fun e => h.2 g e) id)⟩
  obtain rfl : g = g' := by simpa [Value.ownBlock] using hg'
  exact lay_same _ _ _

theorem splice_toList : ∀ (l : List Value) (cs : Array Value) (o : Nat), o + l.length ≤ cs.size → (splice cs o l).toList = cs.toList.take o ++ l ++ cs.toList.drop (o + l.length) := by
  intro l
  induction l with
  | nil => intro cs o _; simp [splice]
  | cons v r ih =>
    intro cs o h
    simp only [splice]
    simp only [List.length_cons] at h
    rw [ih _ _ (by simp; omega)]
    simp only [Array.toList_setIfInBounds, List.length_cons]
    have ho : o < cs.toList.length := by simp; omega
    rw [List.take_succ_eq_append_getElem (by simpa using ho), List.take_set_of_le (Nat.le_refl _), List.drop_set_of_lt (by omega)]
    simp [Nat.add_assoc, Nat.add_comm 1]
theorem splice_size : ∀ (l : List Value) (cs : Array Value) (o : Nat), (splice cs o l).size = cs.size := by
  intro l
  induction l with
  | nil => intro cs o; rfl
  | cons v r ih => intro cs o; simp only [splice]; rw [ih]; simp
theorem splice_take {l : List Value} {cs : Array Value} {o : Nat} (h : o + l.length ≤ cs.size) : (splice cs o l).toList.take (o + l.length) = cs.toList.take o ++ l := by
  rw [splice_toList _ _ _ h, List.take_append_of_le_length (by simp; omega), List.take_of_length_le (by simp; omega)]

/-- A map with its label (a map is known by what ownsMap says of it). -/
def OMapAt {H : Type} (w : World) (L : Labs) (l : Lab) (P : Program) (k : TypeId) (R : Value → Option (DataW H × List MemPlace)) (b n : Nat) (D : DataW H) : Prop := w.ownsMap P k R b n D ∧ L b = l
theorem ownsMap_of_block {H : Type} {w w' : World} {P : Program} {k : TypeId} {R : Value → Option (DataW H × List MemPlace)} {b n : Nat} {D : DataW H} (h : w.ownsMap P k R b n D) (e : w'.heap[b]? = w.heap[b]?) : w'.ownsMap P k R b n D := by
  obtain ⟨es, clock, hb, r⟩ := h
  exact ⟨es, clock, e.trans hb, r⟩
theorem OMapAt.keep {H : Type} {w w' : World} {L L' : Labs} {l : Lab} {P : Program} {k : TypeId} {R : Value → Option (DataW H × List MemPlace)} {b n : Nat} {D : DataW H} (h : OMapAt w L l P k R b n D) {p : Lab → Prop} (s : Step p L w L' w') (hp : ¬ p l) : OMapAt w' L' l P k R b n D :=
  ⟨ownsMap_of_block h.1 (s.block b h.1.lt (by rw [h.2]; exact hp)), (s.lab b h.1.lt).trans h.2⟩

end Go.Proofs.YtojpjaifhjigfaaGreatDoor
