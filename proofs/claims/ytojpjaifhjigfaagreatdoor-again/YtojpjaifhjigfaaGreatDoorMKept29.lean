/- Steps of the proof (several texts in one): RunLive, RunPend, RunLive2, Again1. -/
import Derived.Test.YtojpjaifhjigfaaGreatDoorMKept28
import Derived.Test.YtojpjaifhjigfaaGreatDoorMKept27
import Derived.Test.YtojpjaifhjigfaaGreatDoorMKept25

/- In the end all is over: as plain data. -/
namespace Go.Proofs.YtojpjaifhjigfaaGreatDoor
open Go.RowKit Go.Maps

/-- How many batches wait for a destination. -/
def pcount (bs : List Bat) (d : Nat) : Nat := bs.countP (fun b => decide (b.dst = (d : Int)) && decide (b.st = 1))
theorem pcount_none {bs : List Bat} {d : Nat} (h : pcount bs d = 0) : ∀ b ∈ bs, b.st = 1 → b.dst ≠ d := fun b hb hst hd => by
  have := List.countP_eq_zero.1 h b hb
  simp [hst, hd] at this
theorem pcount_some {bs : List Bat} {d : Nat} (h : pcount bs d ≠ 0) : ∃ b ∈ bs, b.st = 1 ∧ b.dst = d := by
  obtain ⟨b, hb, h2⟩ := List.countP_pos_iff.1 (Nat.pos_of_ne_zero h)
  simp at h2
  exact ⟨b, hb, h2.2, h2.1⟩
theorem pcount_le (bs : List Bat) (d : Nat) : pcount bs d ≤ bs.countP (fun b => decide (b.st = 1)) := List.countP_mono_left (fun b _ h => by simp at h ⊢; exact h.2)
theorem pcount_all {bs : List Bat} {dn : Nat} (hd : ∀ b ∈ bs, 0 ≤ b.dst ∧ b.dst < dn) (h : ∀ d, d < dn → pcount bs d = 0) : bs.countP (fun b => decide (b.st = 1)) = 0 := by
  rw [List.countP_eq_zero]
  intro b hb hst
  obtain ⟨h0, h1⟩ := hd b hb
  have := pcount_none (h b.dst.toNat (by omega)) b hb (by simpa using hst)
  omega
theorem pcount_set {bs : List Bat} {p : Nat} {b b' : Bat} {d : Nat} (hb : bs[p]? = some b) (h1 : b.st = 1) (h2 : b.dst = (d : Int)) (h3 : b'.st ≠ 1) (d' : Nat) : pcount (bs.set p b') d' + (if d' = d then 1 else 0) = pcount bs d' := by
  obtain ⟨hp, e⟩ := List.getElem?_eq_some_iff.1 hb
  unfold pcount
  rw [List.countP_set hp, e]
  have hq : (decide (b'.dst = (d' : Int)) && decide (b'.st = 1)) = false := by simp [h3]
  rw [hq]
  by_cases hd : d' = d
  · subst hd
    have hm : 0 < bs.countP (fun b => decide (b.dst = (d' : Int)) && decide (b.st = 1)) := List.countP_pos_iff.2 ⟨b, by rw [← e]; exact List.getElem_mem hp, by simp [h1, h2]⟩
    simp [h1, h2]
    omega
  · have : ¬ ((d : Int) = (d' : Int)) := by omega
    simp [h1, h2, this, hd]
/-- What a good answer leaves. -/
structure RepliedTo (M M' : Ag) (d : Nat) : Prop where
  os : ∀ d', d' ≠ d → M'.os[d']? = M.os[d']?
  way : ∃ o', M'.os[d]? = some o' ∧ o'.way = -1
  cnt : ∀ d', pcount M'.bs d' + (if d' = d then 1 else 0) = pcount M.bs d'
theorem Inv.repliedTo {M : Ag} {t d : Nat} {o : Out} (h : Inv M t) (ht : t ≤ 10000000000000) (ho : M.os[d]? = some o) (hw : o.way ≠ -1) : RepliedTo M (M.replied d true 0) d := by
  obtain ⟨p, b, r, hs, h1, h2, _⟩ := h.setOk ht (Int.le_refl 0) ho hw
  obtain ⟨k, _, _, f, e⟩ := replied_eq hs true
  rw [e, over_eq hs true]
  have hl := (List.getElem?_eq_some_iff.1 ho).1
  refine ⟨fun d' hd' => List.getElem?_set_ne (fun e => hd' e.symm), ⟨_, List.getElem?_set_self hl, (heard_same o M.c M.now true).1⟩, fun d' => ?_⟩
  exact pcount_set hs.hb h1 h2 (show (b.ended 1 0).st ≠ 1 by simp [Bat.ended]) d'
/-- How far it is: what is under way counts for one. -/
structure Liv (S : List Sd) (n : Nat) (M : Ag) : Prop where
  cnt : ∀ (d : Nat) (o : Out), M.os[d]? = some o → pcount M.bs d ≤ n + (if o.way = -1 then 0 else 1)
  way : ∀ (d : Nat) (o : Out), M.os[d]? = some o → (o.way ≠ -1 ↔ ∃ s ∈ S, s.d = (d : Int))
theorem Liv.next {s : Sd} {S : List Sd} {n d : Nat} {M M' : Ag} (h : Liv (s :: S) n M) (hd : s.d = (d : Int)) (hn : ∀ s' ∈ S, s'.d ≠ s.d) (k : RepliedTo M M' d) (hl : d < M.os.length) : Liv S n M' := by
  obtain ⟨o, ho⟩ : ∃ o, M.os[d]? = some o := ⟨_, List.getElem?_eq_getElem hl⟩
  obtain ⟨o', ho', hw'⟩ := k.way
  have hwo : o.way ≠ -1 := (h.way d o ho).2 ⟨s, by simp, hd⟩
  refine ⟨fun d1 o1 ho1 => ?_, fun d1 o1 ho1 => ?_⟩
  · have hc := k.cnt d1
    by_cases e : d1 = d
    · subst e
      rw [ho'] at ho1
      cases ho1
      have := h.cnt d1 o ho
      rw [if_neg hwo] at this
      rw [if_pos hw']
      simp at hc
      omega
    · rw [k.os d1 e] at ho1
      have := h.cnt d1 o1 ho1
      simp [e] at hc
      omega
  · by_cases e : d1 = d
    · subst e
      rw [ho'] at ho1
      cases ho1
      refine ⟨fun hh => absurd hw' hh, fun ⟨s', hs', e⟩ => ?_⟩
      exact absurd (e.trans hd.symm) (hn s' hs')
    · rw [k.os d1 e] at ho1
      rw [h.way d1 o1 ho1]
      refine ⟨fun ⟨s', hs', e'⟩ => ?_, fun ⟨s', hs', e'⟩ => ⟨s', List.mem_cons_of_mem _ hs', e'⟩⟩
      rcases List.mem_cons.1 hs' with rfl | hs'
      · exact absurd (by omega : d1 = d) e
      · exact ⟨s', hs', e'⟩
theorem Liv.idle {n : Nat} {M : Ag} (h : Liv [] n M) : (∀ (d : Nat) (o : Out), M.os[d]? = some o → o.way = -1) ∧ ∀ (d : Nat) (o : Out), M.os[d]? = some o → pcount M.bs d ≤ n := by
  have hw : ∀ (d : Nat) (o : Out), M.os[d]? = some o → o.way = -1 := fun d o ho => by
    by_cases e : o.way = -1
    · exact e
    · obtain ⟨s, hs, _⟩ := (h.way d o ho).1 e
      cases hs
  refine ⟨hw, fun d o ho => ?_⟩
  have := h.cnt d o ho
  rw [if_pos (hw d o ho)] at this
  exact this
theorem sentTo_d (M : Ag) (d : Nat) : ∀ s ∈ (M.sentTo d).2, s.d = (d : Int) := fun s hs => by
  unfold Ag.sentTo at hs
  cases ho : M.os[d]? with
  | none => rw [ho] at hs; cases hs
  | some o =>
    rw [ho] at hs
    simp only at hs
    split at hs
    · cases hs
    · obtain rfl := List.mem_singleton.1 hs
      rfl
theorem sentTo_rests1 {M : Ag} {d : Nat} (hs : (M.sizes d).all (· == 0) = true) : (M.sentTo d).1 = M := by
  unfold Ag.sentTo
  cases M.os[d]? with
  | none => rfl
  | some o => simp only; rw [if_pos (Or.inr (Or.inr hs))]
/-- One tick, long enough: to each destination for which something waits one goes. -/
structure TickLive (M : Ag) (n : Nat) (x : Ag × List Sd) : Prop where
  liv : Liv x.2 n x.1
  nod : (x.2.map Sd.d).Nodup
  all : ∀ s ∈ x.2, ∃ d : Nat, s.d = (d : Int) ∧ d < M.os.length
  len : x.1.os.length = M.os.length
theorem Inv.tickLive {M : Ag} {t n : Nat} {ms : Int} (hi : Inv M t) (hp : PInv M) (hidle : ∀ (d : Nat) (o : Out), M.os[d]? = some o → o.way = -1) (h0 : 0 ≤ ms) (h1 : M.c.ca ≤ ms) (h2 : M.c.op ≤ ms) (hn : ∀ (d : Nat) (o : Out), M.os[d]? = some o → pcount M.bs d ≤ n + 1) : TickLive M n (M.ticked ms 0) := by
  obtain ⟨X, hX⟩ : ∃ X, M.later ms = X := ⟨_, rfl⟩
  have hos : X.os = M.os := by rw [← hX]; rfl
  have hbs : X.bs = M.bs := by rw [← hX]; rfl
  have hns : X.ns = M.ns := by rw [← hX]; rfl
  have hrt : ∀ r ∈ X.rt, r.fr ≤ X.now := fun r hr => by
    rw [← hX] at hr ⊢
    have := hp.fr r hr
    show r.fr ≤ M.now + ms
    omega
  have hun : ∀ o ∈ X.os, o.unt ≤ X.now := fun o ho => by
    rw [← hX] at ho ⊢
    have := hp.un o ho
    show o.unt ≤ M.now + ms
    omega
  have hnow : 0 ≤ X.now := by rw [← hX]; have := hi.nw0; show 0 ≤ M.now + ms; omega
  have ht : M.ticked ms 0 = X.sentOut M.os.length := by
    unfold Ag.ticked
    rw [hX, timed_idle (M := X) (fun d o ho => hidle d o (by rw [← hos]; exact ho)) 0, hos]
  have hA : ∀ d, pcount M.bs d = 0 → (X.sizes d).all (· == 0) = true := fun d hd => sizes_none (fun b hb hst => pcount_none hd b (by rw [← hbs]; exact hb) hst)
  have hB : ∀ (d : Nat) (o : Out), M.os[d]? = some o → pcount M.bs d ≠ 0 → (X.sentTo d).2.length = 1 ∧ ∃ o' : Out, (X.sentTo d).1.os[d]? = some o' ∧ o'.way ≠ -1 := fun d o ho hd => by
    obtain ⟨b, hb, hst, hdst⟩ := pcount_some hd
    refine sentTo_goes (by rw [hos]; exact ho) (hidle d o ho) (fun _ => hun o (by rw [hos]; exact List.mem_of_getElem? ho)) (sizes_some (b := b) (by rw [hbs]; exact hb) hst hdst ?_ hrt hnow)
    rw [hns]
    exact (hi.each b hb).2.2.1
  have hS : ∀ k, k ≤ M.os.length → (∀ s ∈ (X.sentOut k).2, ∃ d : Nat, d < k ∧ s.d = (d : Int) ∧ pcount M.bs d ≠ 0) ∧ (∀ d, d < k → pcount M.bs d ≠ 0 → ∃ s ∈ (X.sentOut k).2, s.d = (d : Int)) ∧ ((X.sentOut k).2.map Sd.d).Nodup := fun k => by
    induction k with
    | zero => exact fun _ => ⟨fun s hs => (by cases hs), fun d hd => absurd hd (by omega), List.nodup_nil⟩
    | succ k ih =>
      intro hk
      obtain ⟨i1, i2, i3⟩ := ih (by omega)
      rw [sentOut_succ2]
      obtain ⟨o, ho⟩ : ∃ o, M.os[k]? = some o := ⟨_, List.getElem?_eq_getElem (by omega)⟩
      by_cases hc : pcount M.bs k = 0
      · rw [sentTo_rests (hA k hc), List.append_nil]
        refine ⟨fun s hs => ?_, fun d hd hne => ?_, i3⟩
        · obtain ⟨d, q1, q2⟩ := i1 s hs
          exact ⟨d, by omega, q2⟩
        · refine i2 d ?_ hne
          rcases Nat.lt_or_ge d k with h | h
          · exact h
          · exact absurd ((by omega : d = k) ▸ hc) hne
      · obtain ⟨g1, _⟩ := hB k o ho hc
        obtain ⟨s0, hs0⟩ : ∃ s0, (X.sentTo k).2 = [s0] := List.length_eq_one_iff.1 g1
        have hd0 : s0.d = (k : Int) := sentTo_d X k s0 (by rw [hs0]; simp)
        rw [hs0]
        refine ⟨fun s hs => ?_, fun d hd hne => ?_, ?_⟩
        · rcases List.mem_append.1 hs with hs | hs
          · obtain ⟨d, q1, q2⟩ := i1 s hs
            exact ⟨d, by omega, q2⟩
          · obtain rfl := List.mem_singleton.1 hs
            exact ⟨k, by omega, hd0, hc⟩
        · rcases Nat.lt_or_ge d k with h | h
          · obtain ⟨s, hs, e⟩ := i2 d h hne
            exact ⟨s, List.mem_append_left _ hs, e⟩
          · exact ⟨s0, by simp, by rw [hd0]; omega⟩
        · rw [List.map_append, List.nodup_append]
          refine ⟨i3, by simp, fun a ha b hb e => ?_⟩
          obtain ⟨s, hs, rfl⟩ := List.mem_map.1 ha
          obtain ⟨d, q1, q2, _⟩ := i1 s hs
          simp at hb
          subst hb
          omega
  obtain ⟨s1, s2, s3⟩ := hS M.os.length (Nat.le_refl _)
  obtain ⟨_, _, _, e4, _, _⟩ := sentOut_same X M.os.length
  have hl : (X.sentOut M.os.length).1.os.length = M.os.length := by
    have key : ∀ k, (X.sentOut k).1.os.length = X.os.length := fun k => by
      induction k with
      | zero => rfl
      | succ k ih =>
        show ((X.sentOut k).1.sentTo k).1.os.length = _
        rw [← ih]
        unfold Ag.sentTo
        cases (X.sentOut k).1.os[k]? with
        | none => rfl
        | some o => simp only; split <;> simp
    rw [key, hos]
  rw [ht]
  refine ⟨⟨fun d o ho => ?_, fun d o ho => ?_⟩, s3, fun s hs => ?_, hl⟩
  · have hdl : d < M.os.length := by rw [← hl]; exact (List.getElem?_eq_some_iff.1 ho).1
    obtain ⟨o0, ho0⟩ : ∃ o0, M.os[d]? = some o0 := ⟨_, List.getElem?_eq_getElem hdl⟩
    have hb' : (X.sentOut M.os.length).1.bs = M.bs := e4.trans hbs
    rw [hb']
    by_cases hw : o.way = -1
    · rw [if_pos hw]
      by_cases hc : pcount M.bs d = 0
      · omega
      · obtain ⟨_, o', g2, g3⟩ := hB d o0 ho0 hc
        have ho2 : (X.sentOut M.os.length).1.os[d]? = some o := ho
        rw [sentOut_at X M.os.length d hdl, g2] at ho2
        cases ho2
        exact absurd hw g3
    · rw [if_neg hw]
      exact hn d o0 ho0
  · have hdl : d < M.os.length := by rw [← hl]; exact (List.getElem?_eq_some_iff.1 ho).1
    obtain ⟨o0, ho0⟩ : ∃ o0, M.os[d]? = some o0 := ⟨_, List.getElem?_eq_getElem hdl⟩
    have ho2 : (X.sentOut M.os.length).1.os[d]? = some o := ho
    rw [sentOut_at X M.os.length d hdl] at ho2
    by_cases hc : pcount M.bs d = 0
    · rw [sentTo_rests1 (hA d hc), hos, ho0] at ho2
      cases ho2
      refine ⟨fun h => absurd (hidle d _ ho0) h, fun ⟨s, hs, e⟩ => ?_⟩
      obtain ⟨d', _, q2, q3⟩ := s1 s hs
      have : d' = d := by omega
      subst this
      exact absurd hc q3
    · obtain ⟨_, o', g2, g3⟩ := hB d o0 ho0 hc
      rw [g2] at ho2
      cases ho2
      exact ⟨fun _ => s2 d hdl hc, fun _ => g3⟩
  · obtain ⟨d, q1, q2, _⟩ := s1 s hs
    exact ⟨d, q2, q1⟩
end Go.Proofs.YtojpjaifhjigfaaGreatDoor

/- conduitkeep's run: pending. -/
namespace Go.Proofs.YtojpjaifhjigfaaGreatDoor
open Go.RowKit Go.Maps

/-- How many of the first k wait. -/
def pends (fs : List Fa) (k : Nat) : Nat := (fs.take k).countP (fun f => decide (f.b.st = 1))
theorem pends_le (fs : List Fa) (k : Nat) : pends fs k ≤ k := Nat.le_trans List.countP_le_length (by rw [List.length_take]; omega)
theorem pends_succ {fs : List Fa} {k : Nat} {f : Fa} (h : fs[k]? = some f) : pends fs (k + 1) = pends fs k + (if f.b.st = 1 then 1 else 0) := by
  unfold pends
  rw [List.take_add_one, h, List.countP_append]
  simp [List.countP_cons]
theorem pends_all (fs : List Fa) : pends fs fs.length = (fs.map Fa.b).countP (fun b => decide (b.st = 1)) := by
  unfold pends
  rw [List.take_length, List.countP_map]
  rfl
set_option maxRecDepth 100000 in
set_option maxHeartbeats 2000000 in
theorem kpending_any (L : Labs) (gr g cm : Nat) (c : Cfg) (R : Rn) (w : World) (h : RunAt w L gr g cm c R) (h120 : R.fs.length ≤ 120) :
    Calls Tryz.prog 23 #[.pointer (some ⟨gr, 0, none⟩)] w fun e w' => e = .returned (.int .i64 ((R.fs.map Fa.b).countP (fun b => decide (b.st = 1)) : Nat)) ∧ w = w' := by
  obtain ⟨fv, wv, h⟩ := h
  obtain ⟨fa, fk, rfl, _⟩ := h.fa.shape
  have c12 : w.cell? ⟨gr, 12, none⟩ = some (.slice fa R.fs.length fk) := h.blk.1.cell 12
  have H := hide h
  obtain ⟨n, hn⟩ : ∃ n, R.fs.length = n := ⟨_, rfl⟩
  rw [← pends_all, hn]
  rw [hn] at c12 h120
  have Hn := hide hn
  clear h hn
  go_enter Tryz.func23, Tryz.ntmps23
  go_wp2_with fail
  go_loopw [3, 4] (fun s i wr => ∃ k : Nat, k ≤ n ∧ s = .int .i64 (pends R.fs k) ∧ i = .int .i64 k ∧ w = wr) (fun _ i _ => n - (intOf i).toNat)
  case atStart => exact ⟨0, Nat.zero_le _, by simp [pends], rfl, rfl⟩
  case round =>
    obtain ⟨k, hk, rfl, rfl, rfl⟩ := hrel
    by_cases hlt : k < n
    · have hltI : (k : Int) < (n : Int) := by omega
      obtain ⟨f, hf⟩ : ∃ f, R.fs[k]? = some f := ⟨_, List.getElem?_eq_getElem (by rw [Hn.out]; exact hlt)⟩
      obtain ⟨gf, fk', e, _, hcf, _⟩ := H.out.fact hf
      rw [Hn.out] at e
      simp only [Value.slice.injEq] at e
      obtain ⟨rfl, _, rfl⟩ := e
      have e4 : w.cell? ⟨gf, k * 8 + 4, none⟩ = some (.int .i64 f.b.st) := hcf 4 _ rfl
      have hsuc := pends_succ hf
      have hpl := pends_le R.fs k
      have hwr : IntKind.i64.wrap ((pends R.fs k : Int) + 1) = (pends R.fs k : Int) + 1 := IntWalk.i64_in _ (by omega)
      by_cases hst : f.b.st = 1
      · rw [if_pos hst] at hsuc
        rw [hst] at e4
        have Hsuc := hide hsuc
        clear hcf hf hsuc
        go_wp2_with fail
        go_roundw
        case rel => exact ⟨k + 1, by omega, by rw [Hsuc.out]; rfl, by go_num, trivial⟩
        case measure => simp [intOf]; omega
      · rw [if_neg hst] at hsuc
        have hstb : (f.b.st == 1) = false := by simpa using hst
        have Hsuc := hide hsuc
        clear hcf hf hsuc
        go_wp2_with fail
        go_roundw
        case rel => exact ⟨k + 1, by omega, by rw [Hsuc.out]; rfl, by go_num, trivial⟩
        case measure => simp [intOf]; omega
    · obtain rfl : n = k := by omega
      have hltI : ¬ ((n : Int) < (n : Int)) := by omega
      go_wp2_with fail
      go_ret
      exact ⟨rfl, rfl⟩
end Go.Proofs.YtojpjaifhjigfaaGreatDoor

/- conduitkeep.Lively: its calls. -/
namespace Go.Proofs.YtojpjaifhjigfaaGreatDoor
open Go.RowKit Go.Maps

theorem not_ofR7 : ¬ ofR (some (7, .ag)) := fun h => by rcases h with ⟨q, e⟩ | ⟨q, e⟩ <;> cases e
theorem RK.flags {w wr : World} {L : Labs} {gr g cm : Nat} {zs : List Int} {N : Nat} {R : Rn} {M : Ag} {t : Nat} (h : RK w wr L gr g cm zs N R M t) : wr.cell? ⟨gr, 16, none⟩ = some (.bool true) ∧ wr.cell? ⟨gr, 17, none⟩ = some (.bool true) ∧ wr.cell? ⟨gr, 18, none⟩ = some (.bool true) := by
  obtain ⟨fv, wv, hP⟩ := h.at'
  exact ⟨hP.blk.1.cell 16, hP.blk.1.cell 17, hP.blk.1.cell 18⟩
theorem RK.cell1 {w wr : World} {L : Labs} {gr g cm : Nat} {zs : List Int} {N : Nat} {R : Rn} {M : Ag} {t dn : Nat} (h : RK w wr L gr g cm zs N R M t) (hd : (madeC zs).d = dn) : wr.cell? ⟨gr, 1, none⟩ = some (.int .i64 dn) := by
  obtain ⟨fv, wv, hP⟩ := h.at'
  rw [← hd]
  exact hP.blk.1.cell 1
theorem RK.below {w wr w' : World} {L : Labs} {gr g cm : Nat} {zs : List Int} {N : Nat} {R : Rn} {M : Ag} {t : Nat} (h : RK w wr L gr g cm zs N R M t) (hb : Below wr.heap.size wr w') : RK w w' L gr g cm zs N R M t :=
  h.same (h.at'.keep (Step.of_below (p := fun _ => False) hb) (fun _ h => h)) (h.ag.keep (Step.of_below (p := fun _ => False) hb) (fun _ h => h)) (Step.of_below hb)
theorem RK.osl {w wr : World} {L : Labs} {gr g cm : Nat} {zs : List Int} {N : Nat} {R : Rn} {M : Ag} {t dn : Nat} (h : RK w wr L gr g cm zs N R M t) (hd : (madeC zs).d = dn) : M.os.length = dn ∧ R.ws.length = dn := by
  have h1 := h.inv.ol
  have h2 := h.rw'.wl
  rw [h.c, hd] at h1
  omega
/-- All ways of the first k destinations are free. -/
def FreeTo (M : Ag) (k : Nat) : Prop := ∀ (d : Nat) (o : Out), d < k → M.os[d]? = some o → o.way = -1
theorem FreeTo.next {M M' : Ag} {k : Nat} (h : FreeTo M k) (r : RepliedTo M M' k) : FreeTo M' (k + 1) := fun d o hd ho => by
  by_cases e : d = k
  · subst e
    obtain ⟨o', h1, h2⟩ := r.way
    rw [h1] at ho
    cases ho
    exact h2
  · rw [r.os d e] at ho
    exact h d o (by omega) ho
/-- Between the ticks. -/
structure LivAt (w wr : World) (gr g cm : Nat) (zs : List Int) (N n t : Nat) (R : Rn) (M : Ag) (L : Labs) : Prop where
  k : RK w wr L gr g cm zs N R M t
  p : PInv M
  idle : ∀ (d : Nat) (o : Out), M.os[d]? = some o → o.way = -1
  cnt : ∀ (d : Nat) (o : Out), M.os[d]? = some o → pcount M.bs d ≤ n
theorem LivAt.over {w wr : World} {gr g cm : Nat} {zs : List Int} {N t dn : Nat} {R : Rn} {M : Ag} {L : Labs} (h : LivAt w wr gr g cm zs N 0 t R M L) (hd : (madeC zs).d = dn) : (R.fs.map Fa.b).countP (fun b => decide (b.st = 1)) = 0 := by
  rw [h.k.bs]
  refine pcount_all (dn := dn) (fun b hb => ?_) (fun d hdl => ?_)
  · obtain ⟨q1, q2, _⟩ := h.k.inv.each b hb
    rw [h.k.c, hd] at q2
    exact ⟨q1, q2⟩
  · obtain ⟨o, ho⟩ : ∃ o, M.os[d]? = some o := ⟨_, List.getElem?_eq_getElem (by rw [(h.k.osl hd).1]; exact hdl)⟩
    have := h.cnt d o ho
    omega
/-- Among the replies of a tick. -/
structure LivIn (w wr : World) (gr g cm : Nat) (zs : List Int) (N n t : Nat) (S : List Sd) (v : Value) (R : Rn) (M : Ag) (L : Labs) (j : Nat) : Prop where
  k : RK w wr L gr g cm zs N R M t
  p : PInv M
  liv : Liv (S.drop j) n M
  row : RowAt wr L (some (7, .ag)) 68 4 v S.length (S.flatMap Sd.cells)
theorem drop_at {α : Type} {l : List α} {j : Nat} {a : α} (h : l[j]? = some a) : l.drop j = a :: l.drop (j + 1) := by
  obtain ⟨hj, e⟩ := List.getElem?_eq_some_iff.1 h
  rw [List.drop_eq_getElem_cons hj, e]
/-- One reply among them. -/
theorem LivIn.reply {w wr : World} {gr g cm : Nat} {zs : List Int} {N n t dn : Nat} {S : List Sd} {v : Value} {R : Rn} {M : Ag} {L : Labs} {j : Nat} (h : LivIn w wr gr g cm zs N n t S v R M L j) (hd : (madeC zs).d = dn) (hnod : (S.map Sd.d).Nodup) (hall : ∀ s ∈ S, ∃ d : Nat, s.d = (d : Int) ∧ d < dn) (ht : t + 10 ≤ 4000000000000) {s : Sd} (hs : S[j]? = some s) :
    Calls Tryz.prog 22 #[.pointer (some ⟨gr, 0, none⟩), .int .i64 s.d, .bool true, .int .i64 0] wr fun e w' => e = .returned (.tuple #[]) ∧ ∃ R' M' L', LivIn w w' gr g cm zs N n (t + 1) S v R' M' L' (j + 1) := by
  obtain ⟨d, e, hdl⟩ := hall s (List.mem_of_getElem? hs)
  have hdrop := drop_at hs
  have hl : d < M.os.length := by rw [(h.k.osl hd).1]; exact hdl
  obtain ⟨o, ho⟩ : ∃ o, M.os[d]? = some o := ⟨_, List.getElem?_eq_getElem hl⟩
  have hliv := h.liv
  rw [hdrop] at hliv
  have hw : o.way ≠ -1 := (hliv.way d o ho).2 ⟨s, by simp, e⟩
  rw [e]
  refine (rreply_step w wr L gr g cm zs N R M t d o true 0 h.k ht (Int.le_refl _) ho hw).mono ?_
  rintro _ w' ⟨rfl, R', L', q1, _, q3⟩
  refine ⟨rfl, R', _, L', ⟨q1, h.p.replied h.k.inv (by omega) (Int.le_refl _) ho hw true, hliv.next e (fun s' hs' => ?_) (h.k.inv.repliedTo (by omega) ho hw) hl, h.row.keep q3 not_ofR7⟩⟩
  have hn2 : ((S.drop j).map Sd.d).Nodup := by rw [List.map_drop]; exact hnod.sublist (List.drop_sublist _ _)
  rw [hdrop, List.map_cons, List.nodup_cons] at hn2
  exact fun e2 => hn2.1 (List.mem_map.2 ⟨s', hs', e2⟩)
theorem LivIn.done {w wr : World} {gr g cm : Nat} {zs : List Int} {N n t : Nat} {S : List Sd} {v : Value} {R : Rn} {M : Ag} {L : Labs} (h : LivIn w wr gr g cm zs N n t S v R M L S.length) : LivAt w wr gr g cm zs N n t R M L := by
  have hl := h.liv
  rw [List.drop_length] at hl
  exact ⟨h.k, h.p, hl.idle.1, hl.idle.2⟩
/-- One tick. -/
theorem LivAt.tick {w wr : World} {gr g cm : Nat} {zs : List Int} {N n t dn : Nat} {R : Rn} {M : Ag} {L : Labs} {ms : Int} (h : LivAt w wr gr g cm zs N (n + 1) t R M L) (hd : (madeC zs).d = dn) (ht : t + 10 ≤ 4000000000000) (h1 : (madeC zs).ca ≤ ms) (h2 : (madeC zs).op ≤ ms) (h3 : ms ≤ 60000) :
    Calls Tryz.prog 24 #[.pointer (some ⟨gr, 0, none⟩), .int .i64 ms, .int .i64 0] wr fun e w' => ∃ va vk S R' M' L', e = .returned (.slice va S.length vk) ∧ S.length ≤ 4 ∧ (S.map Sd.d).Nodup ∧ (∀ s ∈ S, ∃ d : Nat, s.d = (d : Int) ∧ d < dn) ∧ LivIn w w' gr g cm zs N n (t + 1) S (.slice va S.length vk) R' M' L' 0 := by
  have hc := Cfg.ok h.k.inv.good.1
  rw [h.k.c] at hc
  have h0 : 0 ≤ ms := by have := hc.op; omega
  have hT := h.k.inv.tickLive h.p h.idle h0 (by rw [h.k.c]; exact h1) (by rw [h.k.c]; exact h2) h.cnt
  obtain ⟨_, _, hfew, _⟩ := ticked_by h.k.inv (ms := ms) (draw := 0) (by omega) h0 h3 (Int.le_refl _)
  have hol := (h.k.osl hd).1
  have hd4 : dn ≤ 4 := by have := hc.d; omega
  refine (rtick_any w wr L gr g cm zs N R M t ms 0 h.k ht h0 h3 (Int.le_refl _)).mono ?_
  rintro e w' ⟨v, R', L', rfl, q1, q2, _⟩
  obtain ⟨va, vk, rfl, _⟩ := q1.shape
  refine ⟨va, vk, _, R', _, L', rfl, by omega, hT.nod, fun s hs => ?_, ⟨q2, h.p.ticked h.k.inv (by omega) h0 h3 (Int.le_refl _), by rw [List.drop_zero]; exact hT.liv, q1⟩⟩
  obtain ⟨d, e1, e2⟩ := hT.all s hs
  exact ⟨d, e1, by omega⟩
end Go.Proofs.YtojpjaifhjigfaaGreatDoor

/- The short log leads to what an agent has. -/
namespace Go.Proofs.YtojpjaifhjigfaaGreatDoor
open Go.RowKit Go.Maps

/-- Events that can be, one behind the other, and what they make. -/
def Leads2 (M : Ag) (es : List Ev) (M' : Ag) : Prop := Chain M es ∧ es.foldl Ag.played M = M'
theorem Leads2.nil (M : Ag) : Leads2 M [] M := ⟨trivial, rfl⟩
theorem Leads2.append {M M1 M2 : Ag} {a b : List Ev} (h : Leads2 M a M1) (k : Leads2 M1 b M2) : Leads2 M (a ++ b) M2 := by
  induction a generalizing M with
  | nil => obtain ⟨_, rfl⟩ := h; exact k
  | cons e es ih =>
    obtain ⟨⟨h1, h2⟩, h3⟩ := h
    obtain ⟨q1, q2⟩ := ih ⟨h2, h3⟩
    exact ⟨⟨h1, q1⟩, q2⟩
theorem Leads2.one {M M' : Ag} {e : Ev} (h : M.canBe e = true) (h2 : M.played e = M') : Leads2 M [e] M' := ⟨⟨h, trivial⟩, h2⟩

/-- Some of the batches as they are, the others as when they were taken. -/
def mix (bs : List Bat) (q : Nat → Bool) : List Bat := bs.zipIdx.map (fun x => if q x.2 then x.1 else x.1.fresh)
theorem mix_at (bs : List Bat) (q : Nat → Bool) (i : Nat) : (mix bs q)[i]? = (bs[i]?).map (fun b => if q i then b else b.fresh) := by
  unfold mix
  rw [List.getElem?_map, List.getElem?_zipIdx]
  cases bs[i]? with
  | none => rfl
  | some b => simp
theorem mix_len (bs : List Bat) (q : Nat → Bool) : (mix bs q).length = bs.length := by simp [mix]
theorem mix_eq {bs : List Bat} {q q' : Nat → Bool} (h : ∀ (i : Nat) (b : Bat), bs[i]? = some b → (if q i then b else b.fresh) = (if q' i then b else b.fresh)) : mix bs q = mix bs q' := by
  apply List.ext_getElem?
  intro i
  rw [mix_at, mix_at]
  cases hb : bs[i]? with
  | none => rfl
  | some b => simp only [Option.map_some]; rw [h i b hb]
theorem mix_all {bs : List Bat} {q : Nat → Bool} (h : ∀ (i : Nat) (b : Bat), bs[i]? = some b → (if q i then b else b.fresh) = b) : mix bs q = bs := by
  apply List.ext_getElem?
  intro i
  rw [mix_at]
  cases hb : bs[i]? with
  | none => rfl
  | some b => simp only [Option.map_some]; rw [h i b hb]
/-- One of them ends. -/
theorem mix_end {bs : List Bat} {q : Nat → Bool} {p k f : Nat} {b : Bat} (hb : bs[p]? = some b) (hq : q p = false) (he : b.fresh.ended k f = b) : (mix bs q).modify p (fun x => x.ended k f) = mix bs (fun i => q i || i == p) := by
  apply List.ext_getElem?
  intro i
  rw [List.getElem?_modify, mix_at, mix_at]
  cases hi : bs[i]? with
  | none => rfl
  | some x =>
    by_cases e : p = i
    · subst e
      rw [hb] at hi
      cases hi
      simp [hq, he]
    · have e2 : (i == p) = false := by simpa using fun h => e h.symm
      simp [e, e2]
/-- The agent on the way. -/
def Ag.mid (M : Ag) (bs : List Bat) (ds : List Nat) : Ag := { Ag.new M.c M.D M.ns with bs := bs, dead := ds }
theorem mid_took {M : Ag} {t : Nat} (h : Inv M t) (hid : ∀ (i : Nat) b, M.bs[i]? = some b → b.id = kid i) (h100 : M.bs.length ≤ 100) : ∀ k, k ≤ M.bs.length → Leads2 (M.mid [] []) ((M.bs.take k).map tookEv) (M.mid ((M.bs.take k).map Bat.fresh) [])
  | 0, _ => Leads2.nil _
  | k + 1, hk => by
    have ih := mid_took h hid h100 k (by omega)
    obtain ⟨b, hb⟩ : ∃ b, M.bs[k]? = some b := ⟨_, List.getElem?_eq_getElem (by omega)⟩
    rw [List.take_add_one, hb, List.map_append, List.map_append]
    refine ih.append (Leads2.one ?_ ?_)
    · obtain ⟨q1, q2, q3, q4, q5, q6, _⟩ := h.each b (List.mem_of_getElem? hb)
      have hf : findId ((M.bs.take k).map Bat.fresh) b.id = -1 := by
        unfold findId
        have : ((M.bs.take k).map Bat.fresh).findIdx? (fun x => x.id == b.id) = none := by
          rw [List.findIdx?_eq_none_iff]
          intro x hx
          obtain ⟨y, hy, rfl⟩ := List.mem_map.1 hx
          obtain ⟨j, hj, e⟩ := List.getElem_of_mem hy
          rw [List.length_take] at hj
          rw [List.getElem_take] at e
          have h1 := hid j y (by rw [List.getElem?_eq_getElem (by omega), e])
          have h2 := hid k b hb
          simp only [beq_eq_false_iff_ne, ne_eq]
          show ¬ y.id = b.id
          rw [h1, h2]
          intro e2
          have := kid_inj (by omega) (by omega) e2
          omega
        rw [this]
      unfold Ag.canBe
      rw [if_pos (show (tookEv b).kind = 0 from rfl)]
      show ((M.mid ((M.bs.take k).map Bat.fresh) []).misfit b == 0) = true
      unfold Ag.misfit
      have e1 : destB (M.mid ((M.bs.take k).map Bat.fresh) []) b.dst = true := by simp [destB, Ag.mid, Ag.new]; omega
      have e2 : Maps.has (M.mid ((M.bs.take k).map Bat.fresh) []).D (.string b.ten) = true := (h.hs b.ten).1 q3
      have e3 : inB b.id.length 1 16 = true := by simp [inB]; omega
      have e5 : findId (M.mid ((M.bs.take k).map Bat.fresh) []).bs b.id = -1 := hf
      have e6 : (M.mid ((M.bs.take k).map Bat.fresh) []).bs.length < 120 := by
        show ((M.bs.take k).map Bat.fresh).length < 120
        rw [List.length_map, List.length_take]
        omega
      simp only [e1, e2, e3, e5, if_neg (show ¬ 63 < b.body.length by omega), if_neg (show ¬ 120 ≤ (M.mid ((M.bs.take k).map Bat.fresh) []).bs.length by omega)]
      simp
    · unfold Ag.played
      rw [if_pos (show (tookEv b).kind = 0 from rfl)]
      rfl
theorem fresh_ended {b : Bat} {k : Nat} (hf : 0 ≤ b.fl) (hs : b.st = (if k = 1 then 2 else if k = 3 then 3 else 1)) : b.fresh.ended k b.fl.toNat = b := by
  obtain ⟨d, t, i, bo, st, fl⟩ := b
  simp only at hs hf
  subst hs
  simp only [Bat.ended, Bat.fresh, Bat.mk.injEq, true_and]
  omega
/-- An event of one batch, on the way. -/
theorem mid_end {M : Ag} {t : Nat} (h : Inv M t) {q : Nat → Bool} {ds : List Nat} {p k : Nat} {b : Bat} (hb : M.bs[p]? = some b) (hq : q p = false) (hk : k = 1 ∧ b.st = 2 ∨ k = 2 ∧ b.st = 1 ∧ 0 < b.fl ∨ k = 3 ∧ b.st = 3) : Leads2 (M.mid (mix M.bs q) ds) [Ev.of k p b.fl.toNat] (M.mid (mix M.bs (fun i => q i || i == p)) (if k = 3 then ds ++ [p] else ds)) := by
  obtain ⟨_, _, _, _, _, _, hf0, hst⟩ := h.each b (List.mem_of_getElem? hb)
  have hm : (mix M.bs q)[p]? = some b.fresh := by rw [mix_at, hb]; simp [hq]
  have hk0 : k ≠ 0 := by omega
  refine Leads2.one ?_ ?_
  · unfold Ag.canBe
    rw [if_neg (show ¬ (Ev.of k p b.fl.toNat).kind = 0 from hk0)]
    show (match (mix M.bs q)[p]? with | none => false | some b' => decide (b'.st = 1) && (if k = 1 then decide (b'.fl + (b.fl.toNat : Int) < M.c.at') else if k = 2 then decide (b'.fl + (b.fl.toNat : Int) < M.c.at') && decide (0 < b.fl.toNat) else if k = 3 then decide (b'.fl + (b.fl.toNat : Int) = M.c.at') else false)) = true
    rw [hm]
    show (decide ((1 : Int) = 1) && (if k = 1 then decide ((0 : Int) + (b.fl.toNat : Int) < M.c.at') else if k = 2 then decide ((0 : Int) + (b.fl.toNat : Int) < M.c.at') && decide (0 < b.fl.toNat) else if k = 3 then decide ((0 : Int) + (b.fl.toNat : Int) = M.c.at') else false)) = true
    rcases hk with ⟨rfl, h1⟩ | ⟨rfl, h1, h2⟩ | ⟨rfl, h1⟩
    · simp; omega
    · simp; omega
    · simp; omega
  · unfold Ag.played
    rw [if_neg (show ¬ (Ev.of k p b.fl.toNat).kind = 0 from hk0)]
    have he : b.fresh.ended k b.fl.toNat = b := fresh_ended hf0 (by rcases hk with ⟨rfl, h1⟩ | ⟨rfl, h1, h2⟩ | ⟨rfl, h1⟩ <;> simp [h1])
    have := mix_end hb hq he
    show ({ M.mid (mix M.bs q) ds with bs := (mix M.bs q).modify p (fun x => x.ended k b.fl.toNat), dead := if k = 3 then ds ++ [p] else ds } : Ag) = _
    rw [this]
    rfl
def endQ (bs : List Bat) (k : Nat) : Nat → Bool := fun i => decide (i < k) && decide ((bs[i]?).map (·.st) ≠ some 3)
theorem endQ_self (bs : List Bat) (k : Nat) : endQ bs k k = false := by simp [endQ]
theorem endQ_other (bs : List Bat) {k i : Nat} (h : i ≠ k) : endQ bs (k + 1) i = endQ bs k i := by
  have e3 : (i < k + 1) = (i < k) := by rw [eq_iff_iff]; omega
  simp [endQ, e3]
theorem mid_ends {M : Ag} {t : Nat} (h : Inv M t) : ∀ k, k ≤ M.bs.length → Leads2 (M.mid (mix M.bs (fun _ => false)) []) (endsOf M.bs k) (M.mid (mix M.bs (endQ M.bs k)) [])
  | 0, _ => by
    have : mix M.bs (endQ M.bs 0) = mix M.bs (fun _ => false) := mix_eq (fun i b _ => by simp [endQ])
    rw [this]
    exact Leads2.nil _
  | k + 1, hk => by
    have ih := mid_ends h k (by omega)
    obtain ⟨b, hb⟩ : ∃ b, M.bs[k]? = some b := ⟨_, List.getElem?_eq_getElem (by omega)⟩
    obtain ⟨_, _, _, _, _, _, hf0, hst⟩ := h.each b (List.mem_of_getElem? hb)
    have hq := endQ_self M.bs k
    have hne : b.st ≠ 3 → mix M.bs (endQ M.bs (k + 1)) = mix M.bs (fun i => endQ M.bs k i || i == k) := fun h3 => mix_eq (fun i x hx => by
      by_cases e : i = k
      · subst e
        have : endQ M.bs (i + 1) i = true := by simp [endQ, hb, h3]
        simp [this]
      · have e2 : (i == k) = false := by simpa using e
        rw [endQ_other M.bs e, e2, Bool.or_false])
    unfold endsOf
    rw [hb]
    simp only
    refine ih.append ?_
    unfold endEv
    by_cases h2 : b.st = 2
    · rw [if_pos h2, hne (by omega)]
      have := mid_end (q := endQ M.bs k) (ds := []) (k := 1) h hb hq (Or.inl ⟨rfl, h2⟩)
      rw [if_neg (by omega)] at this
      exact this
    · rw [if_neg h2]
      by_cases h1 : b.st = 1 ∧ 0 < b.fl
      · rw [if_pos h1, hne (by omega)]
        have := mid_end (q := endQ M.bs k) (ds := []) (k := 2) h hb hq (Or.inr (Or.inl ⟨rfl, h1⟩))
        rw [if_neg (by omega)] at this
        exact this
      · rw [if_neg h1]
        have e : mix M.bs (endQ M.bs (k + 1)) = mix M.bs (endQ M.bs k) := mix_eq (fun i x hx => by
          by_cases e : i = k
          · subst e
            rw [hb] at hx
            cases hx
            rcases hst with ⟨a1, _⟩ | ⟨a1, _⟩ | ⟨a1, _⟩
            · have hz : b.fl = 0 := by omega
              have hfr : b.fresh = b := by
                obtain ⟨d, t, i, bo, st, fl⟩ := b
                simp only at a1 hz
                subst a1 hz
                rfl
              simp [hfr]
            · exact absurd a1 h2
            · have : endQ M.bs (i + 1) i = false := by simp [endQ, hb, a1]
              rw [this, hq]
          · rw [endQ_other M.bs e])
        rw [e]
        exact Leads2.nil _
def deadQ (bs : List Bat) (ds : List Nat) : Nat → Bool := fun i => decide ((bs[i]?).map (·.st) ≠ some 3) || decide (i ∈ ds)
theorem mid_died {M : Ag} {t : Nat} (h : Inv M t) : ∀ j, j ≤ M.dead.length → Leads2 (M.mid (mix M.bs (deadQ M.bs [])) []) ((M.dead.take j).map (diedEv M.bs)) (M.mid (mix M.bs (deadQ M.bs (M.dead.take j))) (M.dead.take j))
  | 0, _ => Leads2.nil _
  | j + 1, hj => by
    have ih := mid_died h j (by omega)
    obtain ⟨p, hp⟩ : ∃ p, M.dead[j]? = some p := ⟨_, List.getElem?_eq_getElem (by omega)⟩
    obtain ⟨b, hb, hst⟩ := (h.dead p).1 (List.mem_of_getElem? hp)
    have hsp : M.dead.take (j + 1) = M.dead.take j ++ [p] := by rw [List.take_add_one, hp]; rfl
    have hpn : p ∉ M.dead.take j := fun hm => by
      have h1 : (M.dead.take (j + 1)).Nodup := h.ddn.sublist (List.take_sublist _ _)
      rw [hsp, List.nodup_append] at h1
      exact h1.2.2 p hm p (by simp) rfl
    have hq : deadQ M.bs (M.dead.take j) p = false := by simp [deadQ, hb, hst, hpn]
    rw [hsp, List.map_append]
    refine ih.append ?_
    have hev : [p].map (diedEv M.bs) = [Ev.of 3 p b.fl.toNat] := by simp [diedEv, hb]
    rw [hev]
    have := mid_end (q := deadQ M.bs (M.dead.take j)) (ds := M.dead.take j) (k := 3) h hb hq (Or.inr (Or.inr ⟨rfl, hst⟩))
    rw [if_pos rfl] at this
    have e : mix M.bs (deadQ M.bs (M.dead.take j ++ [p])) = mix M.bs (fun i => deadQ M.bs (M.dead.take j) i || i == p) := mix_eq (fun i x _ => by
      have : deadQ M.bs (M.dead.take j ++ [p]) i = (deadQ M.bs (M.dead.take j) i || i == p) := by
        by_cases e : i = p
        · subst e; simp [deadQ]
        · have e2 : (i == p) = false := by simpa using e
          simp [deadQ, e]
      rw [this])
    rw [e]
    exact this
/-- The short way leads there. -/
theorem way_leads {M : Ag} {t : Nat} (h : Inv M t) (hid : ∀ (i : Nat) b, M.bs[i]? = some b → b.id = kid i) (h100 : M.bs.length ≤ 100) : Leads2 (Ag.new M.c M.D M.ns) M.way M.core := by
  have h1 := mid_took h hid h100 M.bs.length (Nat.le_refl _)
  rw [List.take_length] at h1
  have h2 := mid_ends h M.bs.length (Nat.le_refl _)
  have h3 := mid_died h M.dead.length (Nat.le_refl _)
  rw [List.take_length] at h3
  have e1 : mix M.bs (fun _ => false) = M.bs.map Bat.fresh := by
    apply List.ext_getElem?
    intro i
    rw [mix_at, List.getElem?_map]
    cases M.bs[i]? <;> rfl
  rw [e1] at h2
  have e2 : mix M.bs (endQ M.bs M.bs.length) = mix M.bs (deadQ M.bs []) := mix_eq (fun i b hb => by
    have := (List.getElem?_eq_some_iff.1 hb).1
    simp [endQ, deadQ, this])
  rw [e2] at h2
  have e3 : mix M.bs (deadQ M.bs M.dead) = M.bs := mix_all (fun i b hb => by
    by_cases hs : b.st = 3
    · have : i ∈ M.dead := (h.dead i).2 ⟨b, hb, hs⟩
      simp [deadQ, this]
    · simp [deadQ, hb, hs])
  rw [e3] at h3
  exact (h1.append h2).append h3
end Go.Proofs.YtojpjaifhjigfaaGreatDoor
