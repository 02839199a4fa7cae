/- conduitref.Good: is it a configuration? -/
import Derived.Test.YtojpjaifhjigfaaGreatDoorRefNames
import Derived.Deep.DeepCutAuto
import Derived.Deep.QuietTactic
import Derived.BigQuiet
namespace Go.Proofs.YtojpjaifhjigfaaGreatDoor
open Go.RowKit Go.Maps

theorem mem_strKeys {w : World} {b n : Nat} {D : DataW Unit} (h : OM w b n D) (x : List UInt8) : x ∈ strKeys D ↔ Maps.has D (.string x) = true := by
  obtain ⟨es, rfl, hk⟩ := h.keysOf
  have hk' : ∀ p ∈ es, ∃ y, p.1 = .string y := fun p hp => by
    obtain ⟨v, hv⟩ := hk p hp
    obtain ⟨y, _, hy, _⟩ := Maps.keyOf_str Tryz.underlying9 hv
    exact ⟨y, hy⟩
  rw [has_eq, List.any_eq_true]
  show x ∈ es.map (fun p => strOf p.1) ↔ _
  rw [List.mem_map]
  constructor
  · rintro ⟨p, hp, rfl⟩
    obtain ⟨y, hy⟩ := hk' p hp
    exact ⟨p, hp, by rw [hy]; simp [Lit.sameKey, strOf]⟩
  · rintro ⟨p, hp, hs⟩
    obtain ⟨y, hy⟩ := hk' p hp
    rw [hy] at hs
    exact ⟨p, hp, by rw [hy]; simpa [Lit.sameKey, strOf] using hs⟩
theorem size_strKeys {w : World} {b n : Nat} {D : DataW Unit} (h : OM w b n D) : (strKeys D).length = Maps.size D := by
  obtain ⟨es, rfl, _⟩ := h.keysOf
  simp [strKeys, Maps.size]
theorem keyOfStr {x : List UInt8} (h : x.length ≤ maxLen) : keyOf Tryz.prog 9 (encStr x) = some (.string x) := by
  simp [keyOf, Tryz.underlying9, mapKey, encStr, ByteArray.size, h]

/-- What stands at a key that is there, and that a look-up finds it in every world in which the map lies so. -/
theorem look_at {w : World} {b n : Nat} {D : DataW Unit} (h : OM w b n D) {x : List UInt8} (hx : Maps.has D (.string x) = true) :
    ∃ c, At D x c ∧ ∀ w' n', OM w' b n' D → (Instr.lookup 22 (.map (some b)) (encStr x) false).run Tryz.prog w' = .ok (.int .i64 c) w' := by
  have hl : x.length ≤ maxLen := strKeys_le h Tryz.underlying9 x ((mem_strKeys h x).2 hx)
  have hkey := keyOfStr hl
  obtain ⟨c, _, hat, _⟩ := h.lookup_int lawS Tryz.underlying22 Tryz.underlying3 (zeroInt w) hkey
  have hAt : At D x c := fun zd => by
    rw [← hat]
    obtain ⟨es, rfl, _⟩ := h.keysOf
    rw [has_eq, List.any_eq_true] at hx
    obtain ⟨p, hp, hs⟩ := hx
    cases hf : es.find? (fun p => p.1.sameKey (.string x)) with
    | none => exact absurd hs (by have := List.find?_eq_none.1 hf p hp; simpa using this)
    | some q => simp [DataW.atKey, hf]
  refine ⟨c, hAt, fun w' n' h' => ?_⟩
  obtain ⟨c', hrun, hat', _⟩ := h'.lookup_int lawS Tryz.underlying22 Tryz.underlying3 (zeroInt w') hkey
  have : c = c' := by
    have := hat.symm.trans hat'
    simpa using this
  rw [this]; exact hrun

theorem Texts.head {w : World} {B : Nat} {a : Option Addr} {c : Nat} {ss : List (List UInt8)} (h : Texts w B (.slice a ss.length c) ss) (h0 : 0 < ss.length) : ∃ g, a = some ⟨g, 0, none⟩ ∧ RowS w g c ss ∧ B ≤ g := by
  rcases h.2 with ⟨_, h1⟩ | ⟨g, cap, cur, h1, h2, _⟩
  · omega
  · simp only [Value.slice.injEq, true_and] at h1
    obtain ⟨rfl, rfl⟩ := h1
    exact ⟨g, rfl, RowS.of h, h2⟩

/-- It answers whether p holds. -/
def BoolIff (e : Ending) (p : Prop) : Prop := ∃ r, e = .returned (.bool r) ∧ (r = true ↔ p)
theorem BoolIff.no {p : Prop} (h : ¬ p) : BoolIff (.returned (.bool false)) p := ⟨false, rfl, by simp [h]⟩
theorem BoolIff.yes {p : Prop} (h : p) : BoolIff (.returned (.bool true)) p := ⟨true, rfl, by simp [h]⟩
theorem BoolIff.mk {p : Prop} {r : Bool} (h : r = true ↔ p) : BoolIff (.returned (.bool r)) p := ⟨r, rfl, h⟩

/-- The numbers besides the map, in the order in which Good asks. -/
def Cfg.firstB (c : Cfg) (n : Nat) : Bool := decide (1 ≤ c.d) && decide (c.d ≤ 4) && decide (1 ≤ (n : Int)) && decide ((n : Int) ≤ 8) && decide (1 ≤ c.q) && decide (c.q ≤ 120) && decide (1 ≤ c.at') && decide (c.at' ≤ 10)
def Cfg.timesB (c : Cfg) : Bool := decide (1 ≤ c.ba) && decide (c.ba ≤ c.ca) && decide (c.ca ≤ 60000) && decide (1 ≤ c.ti) && decide (c.ti ≤ 60000) && decide (1 ≤ c.op) && decide (c.op ≤ 60000)
def Cfg.restB (c : Cfg) : Bool := decide (1 ≤ c.wi) && decide (c.wi ≤ 64) && decide (1 ≤ c.le) && decide (c.le ≤ c.wi) && thB c.th

theorem Cfg.good_iff (c : Cfg) (n : Nat) : (c.firstB n && c.timesB && c.restB) = true ↔ c.numB = true ∧ (1 ≤ n ∧ n ≤ 8) ∧ thB c.th = true := by
  simp only [Cfg.firstB, Cfg.timesB, Cfg.restB, Cfg.numB, Cfg.nums, inB, List.all_cons, List.all_nil, Bool.and_eq_true, decide_eq_true_eq, Bool.and_true]
  constructor
  · rintro ⟨⟨⟨⟨⟨⟨⟨⟨⟨a1, a2⟩, a3⟩, a4⟩, a5⟩, a6⟩, a7⟩, a8⟩, ⟨⟨⟨⟨⟨⟨b1, b2⟩, b3⟩, b4⟩, b5⟩, b6⟩, b7⟩⟩, ⟨⟨⟨⟨c1, c2⟩, c3⟩, c4⟩, c5⟩⟩
    exact ⟨⟨⟨a1, a2⟩, ⟨a5, a6⟩, ⟨a7, a8⟩, ⟨by omega, b3⟩, ⟨b1, b2⟩, ⟨b4, b5⟩, ⟨b6, b7⟩, ⟨c1, c2⟩, ⟨c3, c4⟩⟩, ⟨by omega, by omega⟩, c5⟩
  · rintro ⟨⟨⟨a1, a2⟩, ⟨a5, a6⟩, ⟨a7, a8⟩, ⟨_, b3⟩, ⟨b1, b2⟩, ⟨b4, b5⟩, ⟨b6, b7⟩, ⟨c1, c2⟩, ⟨c3, c4⟩⟩, ⟨d1, d2⟩, c5⟩
    exact ⟨⟨⟨⟨⟨⟨⟨⟨⟨a1, a2⟩, by omega⟩, by omega⟩, a5⟩, a6⟩, a7⟩, a8⟩, ⟨⟨⟨⟨⟨⟨b1, b2⟩, b3⟩, b4⟩, b5⟩, b6⟩, b7⟩⟩, ⟨⟨⟨⟨c1, c2⟩, c3⟩, c4⟩, c5⟩⟩

set_option maxRecDepth 100000 in
set_option maxHeartbeats 2000000 in
theorem good_any (c : Cfg) (m : Option Nat) (D : DataW Unit) (w : World) (h : MapAt w m D) : Calls Tryz.prog 41 #[c.val m] w fun e w' => BoolIff e (GoodC c D) ∧ Below w.heap.size w w' := by
  have H := hide h
  clear h
  go_enter Tryz.func41, Tryz.ntmps41
  go_wp2_with fail
  refine (refNames_any m D _ (H.out.alloc _)).mono ?_
  rintro e w1 ⟨v, ss, rfl, hT, hP, hb1⟩
  obtain ⟨a3, c3, hv⟩ := hT.shape
  subst hv
  have HT := hide hT
  have HP := hide hP
  have Hb1 : Hid (Below w.heap.size w w1) := ((Below.refl _ _).alloc (Nat.le_refl _) _).trans (hb1.mono (by simp))
  have HK : Hid (Blk w1 w.heap.size (c.cells m) 25) := (Blk.new w _ _).below hb1 (by simp)
  have HM : Hid (MapAt w1 m D) := (H.out.alloc _).below hb1 (Nat.le_refl _)
  have hbig : (ss.length : Int) ≤ 8796093022208 := by
    rcases H.out with ⟨_, rfl⟩ | ⟨b, n, _, h2, h3⟩
    · have := HP.out.length_eq; rw [show (strKeys (.map [] : DataW Unit)).length = 0 from rfl] at this; omega
    · have := HP.out.length_eq; rw [size_strKeys h2] at this; have := h2.size_le; unfold big at h3; omega
  clear hT hP hb1
  go_wp2_with fail
  go_loopw [4] (fun i wr => ∃ k n : Nat, k ≤ ss.length ∧ i = .int .i64 k ∧ wr = w1.drewN n ∧ ∀ j x, j < k → ss[j]? = some x → ∀ q, At D x q → okKV x q = true) (fun i _ => ss.length - (intOf i).toNat)
  case atStart => exact ⟨0, 0, Nat.zero_le _, rfl, rfl, fun j x hj => absurd hj (Nat.not_lt_zero _)⟩
  case round =>
    obtain ⟨k, nd, hk, rfl, rfl, hall⟩ := hrel
    have Hall := hide hall
    clear hall
    by_cases hlt : k < ss.length
    · have hltI : (k : Int) < (ss.length : Int) := by omega
      obtain ⟨g, rfl, hR, _⟩ := HT.out.head (by omega)
      have hck : w1.cell? ⟨g, k, none⟩ = some (encStr (ss[k]'hlt)) := hR.cell k hlt
      have hc1 : w1.cell? ⟨w.heap.size, 1, none⟩ = some (.map m) := HK.out.cell 1
      obtain ⟨b, n, rfl, hown⟩ : ∃ b n, m = some b ∧ OM w1 b n D := by
        rcases HM.out with ⟨_, rfl⟩ | ⟨b, n, h1, h2, _⟩
        · have := HP.out.length_eq; rw [show (strKeys (.map [] : DataW Unit)).length = 0 from rfl] at this; omega
        · exact ⟨b, n, h1, h2⟩
      have hin : ss[k] ∈ strKeys D := HP.out.mem_iff.1 (List.getElem_mem hlt)
      obtain ⟨q, hAt, hlook⟩ := look_at hown ((mem_strKeys hown _).1 hin)
      have hlk := fun nq => hlook (w1.drewN nq) n hown
      have HA := hide hAt
      have HX : Hid (∀ y q', ss[k]? = some y → At D y q' → okKV y q' = okKV (ss[k]'hlt) q) := fun y q' e h' => by
        rw [List.getElem?_eq_getElem hlt] at e
        obtain rfl := Option.some.inj e
        rw [HA.out.eq h']
      have Hlen : Hid (ss[k].length ≤ maxLen) := strKeys_le hown Tryz.underlying9 _ hin
      clear hR hown hin hlook hAt
      generalize hx : ss[k]'hlt = x at *
      clear hx
      go_wp2_with fail
      go_quiet (fail)
      go_wp2_with fail
      all_goals first
        | (have hno : okKV x q = false := by
             cases h : okKV x q with
             | false => rfl
             | true => simp [okKV, inB] at h; omega
           go_ret
           exact ⟨BoolIff.no (fun h => by have := h.2.1.2 x q HA.out; rw [hno] at this; cases this), below_drewN Hb1.out _⟩)
        | (have hyes : okKV x q = true := by simp [okKV, inB]; omega
           go_roundw
           case rel => exact ⟨k + 1, _, by omega, by go_num, rfl, fun j y hj hy q' h' => by
             rcases Nat.lt_or_ge j k with hjk | hjk
             · exact Hall.out j y hjk hy q' h'
             · have e : j = k := by omega
               rw [e] at hy
               rw [HX.out y q' hy h']; exact hyes⟩
           case measure => simp [intOf]; omega)
    · have hss : Hid (∀ x q, At D x q → okKV x q = true) := fun x q hAt => by
        have hx : x ∈ ss := by
          rcases HM.out with ⟨_, rfl⟩ | ⟨b, n, _, h2, _⟩
          · have := hAt.has; simp [Maps.has] at this
          · exact HP.out.mem_iff.2 ((mem_strKeys h2 x).2 hAt.has)
        obtain ⟨j, hj, rfl⟩ := List.mem_iff_getElem.1 hx
        exact Hall.out j _ (by omega) (List.getElem?_eq_getElem hj) q hAt
      have hsz : Hid (ss.length = Maps.size D) := by
        rcases HM.out with ⟨_, rfl⟩ | ⟨b, n, _, h2, _⟩
        · exact HP.out.length_eq
        · rw [← size_strKeys h2]; exact HP.out.length_eq
      have hgood : Hid ((c.firstB ss.length && c.timesB && c.restB) = true ↔ GoodC c D) := by
        show _ ↔ _
        rw [Cfg.good_iff]
        unfold GoodC GoodQ
        rw [← hsz.out]
        exact ⟨fun h => ⟨h.1, ⟨h.2.1, hss.out⟩, h.2.2⟩, fun h => ⟨h.1, h.2.1.1, h.2.2⟩⟩
      have e0 : w1.cell? ⟨w.heap.size, 0, none⟩ = some (.int .i64 c.d) := HK.out.cell 0
      have e2 : w1.cell? ⟨w.heap.size, 2, none⟩ = some (.int .i64 c.q) := HK.out.cell 2
      have e3 : w1.cell? ⟨w.heap.size, 3, none⟩ = some (.int .i64 c.at') := HK.out.cell 3
      have e4 : w1.cell? ⟨w.heap.size, 4, none⟩ = some (.int .i64 c.ba) := HK.out.cell 4
      have e5 : w1.cell? ⟨w.heap.size, 5, none⟩ = some (.int .i64 c.ca) := HK.out.cell 5
      have e6 : w1.cell? ⟨w.heap.size, 6, none⟩ = some (.int .i64 c.ti) := HK.out.cell 6
      have e7 : w1.cell? ⟨w.heap.size, 7, none⟩ = some (.int .i64 c.wi) := HK.out.cell 7
      have e8 : w1.cell? ⟨w.heap.size, 8, none⟩ = some (.int .i64 c.le) := HK.out.cell 8
      have e9 : w1.cell? ⟨w.heap.size, 9, none⟩ = some (.float .f64 c.th) := HK.out.cell 9
      have e10 : w1.cell? ⟨w.heap.size, 10, none⟩ = some (.int .i64 c.op) := HK.out.cell 10
      go_upto_region 8 with fail
      go_cut [6] (fun s6 wx => s6 = .bool (c.firstB ss.length) ∧ wx = w1.drewN nd)
      case first =>
        go_wp2_with fail
        all_goals (go_meet; exact ⟨congrArg Value.bool (Bool.eq_iff_iff.2 (by simp [Cfg.firstB]; omega)), rfl⟩)
      case rest =>
        obtain ⟨rfl, rfl⟩ := hcut
        go_upto_region 9 with fail
        go_cut [7] (fun s7 wx => s7 = .bool c.timesB ∧ wx = w1.drewN nd)
        case first =>
          go_wp2_with fail
          all_goals (go_meet; exact ⟨congrArg Value.bool (Bool.eq_iff_iff.2 (by simp [Cfg.timesB]; omega)), rfl⟩)
        case rest =>
          obtain ⟨rfl, rfl⟩ := hcut
          cases h1 : c.firstB ss.length
          · go_wp2_with fail
            go_ret
            exact ⟨BoolIff.no (fun h => by have := hgood.out.2 h; rw [h1] at this; cases this), below_drewN Hb1.out _⟩
          cases h2 : c.timesB
          · go_wp2_with fail
            go_ret
            exact ⟨BoolIff.no (fun h => by have := hgood.out.2 h; rw [h1, h2] at this; cases this), below_drewN Hb1.out _⟩
          have Hr : Hid (c.restB = true ↔ GoodC c D) := by
            have := hgood.out
            rw [h1, h2] at this
            exact (show c.restB = true ↔ GoodC c D by simpa using this)
          clear hgood
          go_wp2_with fail
          all_goals
            go_ret
            refine ⟨BoolIff.mk ?_, below_drewN Hb1.out _⟩
            rw [← Hr.out]
            first
              | (simp [Cfg.restB, thB, *]; done)
              | (simp [Cfg.restB, thB, *]; omega)
end Go.Proofs.YtojpjaifhjigfaaGreatDoor
