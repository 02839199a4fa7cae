/- Steps of the proof (several texts in one): RunLive, RunPend, RunLive2, LivelyWalk, ProofBase. -/
import Derived.Test.YtojpjaifhjigfaaGreatDoorMKept28
import Derived.Test.YtojpjaifhjigfaaGreatDoorMKept27
import Derived.Test.YtojpjaifhjigfaaGreatDoorRows
import Derived.Test.YtojpjaifhjigfaaGreatDoorCards
import Derived.Test.YtojpjaifhjigfaaGreatDoorTie
import Derived.Test.YtojpjaifhjigfaaGreatDoorMKept02
import Derived.ProofKit
import Derived.LaidMore
import Derived.OpenShut
import Derived.Stop.Joined
import Derived.SevenTiedAt

/- In the end all is over: as plain data. -/
namespace Go.Proofs.YtojpjaifhjigfaaGreatDoor
open Go.RowKit Go.Maps

/-- How many batches wait for a destination. -/
def pcount (bs : List Bat) (d : Nat) : Nat := bs.countP (fun b => decide (b.dst = (d : Int)) && decide (b.st = 1))
theorem pcount_none {bs : List Bat} {d : Nat} (h : pcount bs d = 0) : ∀ b ∈ bs, b.st = 1 → b.dst ≠ d := fun b hb hst hd => by
  have := List.countP_eq_zero.1 h b hb
  simp [hst, hd] at this
theorem pcount_some {bs : List Bat} {d : Nat} (h : pcount bs d ≠ 0) : ∃ b ∈ bs, b.st = 1 ∧ b.dst = d := by
  obtain ⟨b, hb, h2⟩ := List.countP_pos_iff.1 (Nat.pos_of_ne_zero h)
  simp at h2
  exact ⟨b, hb, h2.2, h2.1⟩
theorem pcount_le (bs : List Bat) (d : Nat) : pcount bs d ≤ bs.countP (fun b => decide (b.st = 1)) := List.countP_mono_left (fun b _ h => by simp at h ⊢; exact h.2)
theorem pcount_all {bs : List Bat} {dn : Nat} (hd : ∀ b ∈ bs, 0 ≤ b.dst ∧ b.dst < dn) (h : ∀ d, d < dn → pcount bs d = 0) : bs.countP (fun b => decide (b.st = 1)) = 0 := by
  rw [List.countP_eq_zero]
  intro b hb hst
  obtain ⟨h0, h1⟩ := hd b hb
  have := pcount_none (h b.dst.toNat (by omega)) b hb (by simpa using hst)
  omega
theorem pcount_set {bs : List Bat} {p : Nat} {b b' : Bat} {d : Nat} (hb : bs[p]? = some b) (h1 : b.st = 1) (h2 : b.dst = (d : Int)) (h3 : b'.st ≠ 1) (d' : Nat) : pcount (bs.set p b') d' + (if d' = d then 1 else 0) = pcount bs d' := by
  obtain ⟨hp, e⟩ := List.getElem?_eq_some_iff.1 hb
  unfold pcount
  rw [List.countP_set hp, e]
  have hq : (decide (b'.dst = (d' : Int)) && decide (b'.st = 1)) = false := by simp [h3]
  rw [hq]
  by_cases hd : d' = d
  · subst hd
    have hm : 0 < bs.countP (fun b => decide (b.dst = (d' : Int)) && decide (b.st = 1)) := List.countP_pos_iff.2 ⟨b, by rw [← e]; exact List.getElem_mem hp, by simp [h1, h2]⟩
    simp [h1, h2]
    omega
  · have : ¬ ((d : Int) = (d' : Int)) := by omega
    simp [h1, h2, this, hd]
/-- What a good answer leaves. -/
structure RepliedTo (M M' : Ag) (d : Nat) : Prop where
  os : ∀ d', d' ≠ d → M'.os[d']? = M.os[d']?
  way : ∃ o', M'.os[d]? = some o' ∧ o'.way = -1
  cnt : ∀ d', pcount M'.bs d' + (if d' = d then 1 else 0) = pcount M.bs d'
theorem Inv.repliedTo {M : Ag} {t d : Nat} {o : Out} (h : Inv M t) (ht : t ≤ 10000000000000) (ho : M.os[d]? = some o) (hw : o.way ≠ -1) : RepliedTo M (M.replied d true 0) d := by
  obtain ⟨p, b, r, hs, h1, h2, _⟩ := h.setOk ht (Int.le_refl 0) ho hw
  obtain ⟨k, _, _, f, e⟩ := replied_eq hs true
  rw [e, over_eq hs true]
  have hl := (List.getElem?_eq_some_iff.1 ho).1
  refine ⟨fun d' hd' => List.getElem?_set_ne (fun e => hd' e.symm), ⟨_, List.getElem?_set_self hl, (heard_same o M.c M.now true).1⟩, fun d' => ?_⟩
  exact pcount_set hs.hb h1 h2 (show (b.ended 1 0).st ≠ 1 by simp [Bat.ended]) d'
/-- How far it is: what is under way counts for one. -/
structure Liv (S : List Sd) (n : Nat) (M : Ag) : Prop where
  cnt : ∀ (d : Nat) (o : Out), M.os[d]? = some o → pcount M.bs d ≤ n + (if o.way = -1 then 0 else 1)
  way : ∀ (d : Nat) (o : Out), M.os[d]? = some o → (o.way ≠ -1 ↔ ∃ s ∈ S, s.d = (d : Int))
theorem Liv.next {s : Sd} {S : List Sd} {n d : Nat} {M M' : Ag} (h : Liv (s :: S) n M) (hd : s.d = (d : Int)) (hn : ∀ s' ∈ S, s'.d ≠ s.d) (k : RepliedTo M M' d) (hl : d < M.os.length) : Liv S n M' := by
  obtain ⟨o, ho⟩ : ∃ o, M.os[d]? = some o := ⟨_, List.getElem?_eq_getElem hl⟩
  obtain ⟨o', ho', hw'⟩ := k.way
  have hwo : o.way ≠ -1 := (h.way d o ho).2 ⟨s, by simp, hd⟩
  refine ⟨fun d1 o1 ho1 => ?_, fun d1 o1 ho1 => ?_⟩
  · have hc := k.cnt d1
    by_cases e : d1 = d
    · subst e
      rw [ho'] at ho1
      cases ho1
      have := h.cnt d1 o ho
      rw [if_neg hwo] at this
      rw [if_pos hw']
      simp at hc
      omega
    · rw [k.os d1 e] at ho1
      have := h.cnt d1 o1 ho1
      simp [e] at hc
      omega
  · by_cases e : d1 = d
    · subst e
      rw [ho'] at ho1
      cases ho1
      refine ⟨fun hh => absurd hw' hh, fun ⟨s', hs', e⟩ => ?_⟩
      exact absurd (e.trans hd.symm) (hn s' hs')
    · rw [k.os d1 e] at ho1
      rw [h.way d1 o1 ho1]
      refine ⟨fun ⟨s', hs', e'⟩ => ?_, fun ⟨s', hs', e'⟩ => ⟨s', List.mem_cons_of_mem _ hs', e'⟩⟩
      rcases List.mem_cons.1 hs' with rfl | hs'
      · exact absurd (by omega : d1 = d) e
      · exact ⟨s', hs', e'⟩
theorem Liv.idle {n : Nat} {M : Ag} (h : Liv [] n M) : (∀ (d : Nat) (o : Out), M.os[d]? = some o → o.way = -1) ∧ ∀ (d : Nat) (o : Out), M.os[d]? = some o → pcount M.bs d ≤ n := by
  have hw : ∀ (d : Nat) (o : Out), M.os[d]? = some o → o.way = -1 := fun d o ho => by
    by_cases e : o.way = -1
    · exact e
    · obtain ⟨s, hs, _⟩ := (h.way d o ho).1 e
      cases hs
  refine ⟨hw, fun d o ho => ?_⟩
  have := h.cnt d o ho
  rw [if_pos (hw d o ho)] at this
  exact this
theorem sentTo_d (M : Ag) (d : Nat) : ∀ s ∈ (M.sentTo d).2, s.d = (d : Int) := fun s hs => by
  unfold Ag.sentTo at hs
  cases ho : M.os[d]? with
  | none => rw [ho] at hs; cases hs
  | some o =>
    rw [ho] at hs
    simp only at hs
    split at hs
    · cases hs
    · obtain rfl := List.mem_singleton.1 hs
      rfl
theorem sentTo_rests1 {M : Ag} {d : Nat} (hs : (M.sizes d).all (· == 0) = true) : (M.sentTo d).1 = M := by
  unfold Ag.sentTo
  cases M.os[d]? with
  | none => rfl
  | some o => simp only; rw [if_pos (Or.inr (Or.inr hs))]
/-- One tick, long enough: to each destination for which something waits one goes. -/
structure TickLive (M : Ag) (n : Nat) (x : Ag × List Sd) : Prop where
  liv : Liv x.2 n x.1
  nod : (x.2.map Sd.d).Nodup
  all : ∀ s ∈ x.2, ∃ d : Nat, s.d = (d : Int) ∧ d < M.os.length
  len : x.1.os.length = M.os.length
theorem Inv.tickLive {M : Ag} {t n : Nat} {ms : Int} (hi : Inv M t) (hp : PInv M) (hidle : ∀ (d : Nat) (o : Out), M.os[d]? = some o → o.way = -1) (h0 : 0 ≤ ms) (h1 : M.c.ca ≤ ms) (h2 : M.c.op ≤ ms) (hn : ∀ (d : Nat) (o : Out), M.os[d]? = some o → pcount M.bs d ≤ n + 1) : TickLive M n (M.ticked ms 0) := by
  obtain ⟨X, hX⟩ : ∃ X, M.later ms = X := ⟨_, rfl⟩
  have hos : X.os = M.os := by rw [← hX]; rfl
  have hbs : X.bs = M.bs := by rw [← hX]; rfl
  have hns : X.ns = M.ns := by rw [← hX]; rfl
  have hrt : ∀ r ∈ X.rt, r.fr ≤ X.now := fun r hr => by
    rw [← hX] at hr ⊢
    have := hp.fr r hr
    show r.fr ≤ M.now + ms
    omega
  have hun : ∀ o ∈ X.os, o.unt ≤ X.now := fun o ho => by
    rw [← hX] at ho ⊢
    have := hp.un o ho
    show o.unt ≤ M.now + ms
    omega
  have hnow : 0 ≤ X.now := by rw [← hX]; have := hi.nw0; show 0 ≤ M.now + ms; omega
  have ht : M.ticked ms 0 = X.sentOut M.os.length := by
    unfold Ag.ticked
    rw [hX, timed_idle (M := X) (fun d o ho => hidle d o (by rw [← hos]; exact ho)) 0, hos]
  have hA : ∀ d, pcount M.bs d = 0 → (X.sizes d).all (· == 0) = true := fun d hd => sizes_none (fun b hb hst => pcount_none hd b (by rw [← hbs]; exact hb) hst)
  have hB : ∀ (d : Nat) (o : Out), M.os[d]? = some o → pcount M.bs d ≠ 0 → (X.sentTo d).2.length = 1 ∧ ∃ o' : Out, (X.sentTo d).1.os[d]? = some o' ∧ o'.way ≠ -1 := fun d o ho hd => by
    obtain ⟨b, hb, hst, hdst⟩ := pcount_some hd
    refine sentTo_goes (by rw [hos]; exact ho) (hidle d o ho) (fun _ => hun o (by rw [hos]; exact List.mem_of_getElem? ho)) (sizes_some (b := b) (by rw [hbs]; exact hb) hst hdst ?_ hrt hnow)
    rw [hns]
    exact (hi.each b hb).2.2.1
  have hS : ∀ k, k ≤ M.os.length → (∀ s ∈ (X.sentOut k).2, ∃ d : Nat, d < k ∧ s.d = (d : Int) ∧ pcount M.bs d ≠ 0) ∧ (∀ d, d < k → pcount M.bs d ≠ 0 → ∃ s ∈ (X.sentOut k).2, s.d = (d : Int)) ∧ ((X.sentOut k).2.map Sd.d).Nodup := fun k => by
    induction k with
    | zero => exact fun _ => ⟨fun s hs => (by cases hs), fun d hd => absurd hd (by omega), List.nodup_nil⟩
    | succ k ih =>
      intro hk
      obtain ⟨i1, i2, i3⟩ := ih (by omega)
      rw [sentOut_succ2]
      obtain ⟨o, ho⟩ : ∃ o, M.os[k]? = some o := ⟨_, List.getElem?_eq_getElem (by omega)⟩
      by_cases hc : pcount M.bs k = 0
      · rw [sentTo_rests (hA k hc), List.append_nil]
        refine ⟨fun s hs => ?_, fun d hd hne => ?_, i3⟩
        · obtain ⟨d, q1, q2⟩ := i1 s hs
          exact ⟨d, by omega, q2⟩
        · refine i2 d ?_ hne
          rcases Nat.lt_or_ge d k with h | h
          · exact h
          · exact absurd ((by omega : d = k) ▸ hc) hne
      · obtain ⟨g1, _⟩ := hB k o ho hc
        obtain ⟨s0, hs0⟩ : ∃ s0, (X.sentTo k).2 = [s0] := List.length_eq_one_iff.1 g1
        have hd0 : s0.d = (k : Int) := sentTo_d X k s0 (by rw [hs0]; simp)
        rw [hs0]
        refine ⟨fun s hs => ?_, fun d hd hne => ?_, ?_⟩
        · rcases List.mem_append.1 hs with hs | hs
          · obtain ⟨d, q1, q2⟩ := i1 s hs
            exact ⟨d, by omega, q2⟩
          · obtain rfl := List.mem_singleton.1 hs
            exact ⟨k, by omega, hd0, hc⟩
        · rcases Nat.lt_or_ge d k with h | h
          · obtain ⟨s, hs, e⟩ := i2 d h hne
            exact ⟨s, List.mem_append_left _ hs, e⟩
          · exact ⟨s0, by simp, by rw [hd0]; omega⟩
        · rw [List.map_append, List.nodup_append]
          refine ⟨i3, by simp, fun a ha b hb e => ?_⟩
          obtain ⟨s, hs, rfl⟩ := List.mem_map.1 ha
          obtain ⟨d, q1, q2, _⟩ := i1 s hs
          simp at hb
          subst hb
          omega
  obtain ⟨s1, s2, s3⟩ := hS M.os.length (Nat.le_refl _)
  obtain ⟨_, _, _, e4, _, _⟩ := sentOut_same X M.os.length
  have hl : (X.sentOut M.os.length).1.os.length = M.os.length := by
    have key : ∀ k, (X.sentOut k).1.os.length = X.os.length := fun k => by
      induction k with
      | zero => rfl
      | succ k ih =>
        show ((X.sentOut k).1.sentTo k).1.os.length = _
        rw [← ih]
        unfold Ag.sentTo
        cases (X.sentOut k).1.os[k]? with
        | none => rfl
        | some o => simp only; split <;> simp
    rw [key, hos]
  rw [ht]
  refine ⟨⟨fun d o ho => ?_, fun d o ho => ?_⟩, s3, fun s hs => ?_, hl⟩
  · have hdl : d < M.os.length := by rw [← hl]; exact (List.getElem?_eq_some_iff.1 ho).1
    obtain ⟨o0, ho0⟩ : ∃ o0, M.os[d]? = some o0 := ⟨_, List.getElem?_eq_getElem hdl⟩
    have hb' : (X.sentOut M.os.length).1.bs = M.bs := e4.trans hbs
    rw [hb']
    by_cases hw : o.way = -1
    · rw [if_pos hw]
      by_cases hc : pcount M.bs d = 0
      · omega
      · obtain ⟨_, o', g2, g3⟩ := hB d o0 ho0 hc
        have ho2 : (X.sentOut M.os.length).1.os[d]? = some o := ho
        rw [sentOut_at X M.os.length d hdl, g2] at ho2
        cases ho2
        exact absurd hw g3
    · rw [if_neg hw]
      exact hn d o0 ho0
  · have hdl : d < M.os.length := by rw [← hl]; exact (List.getElem?_eq_some_iff.1 ho).1
    obtain ⟨o0, ho0⟩ : ∃ o0, M.os[d]? = some o0 := ⟨_, List.getElem?_eq_getElem hdl⟩
    have ho2 : (X.sentOut M.os.length).1.os[d]? = some o := ho
    rw [sentOut_at X M.os.length d hdl] at ho2
    by_cases hc : pcount M.bs d = 0
    · rw [sentTo_rests1 (hA d hc), hos, ho0] at ho2
      cases ho2
      refine ⟨fun h => absurd (hidle d _ ho0) h, fun ⟨s, hs, e⟩ => ?_⟩
      obtain ⟨d', _, q2, q3⟩ := s1 s hs
      have : d' = d := by omega
      subst this
      exact absurd hc q3
    · obtain ⟨_, o', g2, g3⟩ := hB d o0 ho0 hc
      rw [g2] at ho2
      cases ho2
      exact ⟨fun _ => s2 d hdl hc, fun _ => g3⟩
  · obtain ⟨d, q1, q2, _⟩ := s1 s hs
    exact ⟨d, q2, q1⟩
end Go.Proofs.YtojpjaifhjigfaaGreatDoor

/- conduitkeep's run: pending. -/
namespace Go.Proofs.YtojpjaifhjigfaaGreatDoor
open Go.RowKit Go.Maps

/-- How many of the first k wait. -/
def pends (fs : List Fa) (k : Nat) : Nat := (fs.take k).countP (fun f => decide (f.b.st = 1))
theorem pends_le (fs : List Fa) (k : Nat) : pends fs k ≤ k := Nat.le_trans List.countP_le_length (by rw [List.length_take]; omega)
theorem pends_succ {fs : List Fa} {k : Nat} {f : Fa} (h : fs[k]? = some f) : pends fs (k + 1) = pends fs k + (if f.b.st = 1 then 1 else 0) := by
  unfold pends
  rw [List.take_add_one, h, List.countP_append]
  simp [List.countP_cons]
theorem pends_all (fs : List Fa) : pends fs fs.length = (fs.map Fa.b).countP (fun b => decide (b.st = 1)) := by
  unfold pends
  rw [List.take_length, List.countP_map]
  rfl
set_option maxRecDepth 100000 in
set_option maxHeartbeats 2000000 in
theorem kpending_any (L : Labs) (gr g cm : Nat) (c : Cfg) (R : Rn) (w : World) (h : RunAt w L gr g cm c R) (h120 : R.fs.length ≤ 120) :
    Calls Tryz.prog 23 #[.pointer (some ⟨gr, 0, none⟩)] w fun e w' => e = .returned (.int .i64 ((R.fs.map Fa.b).countP (fun b => decide (b.st = 1)) : Nat)) ∧ w = w' := by
  obtain ⟨fv, wv, h⟩ := h
  obtain ⟨fa, fk, rfl, _⟩ := h.fa.shape
  have c12 : w.cell? ⟨gr, 12, none⟩ = some (.slice fa R.fs.length fk) := h.blk.1.cell 12
  have H := hide h
  obtain ⟨n, hn⟩ : ∃ n, R.fs.length = n := ⟨_, rfl⟩
  rw [← pends_all, hn]
  rw [hn] at c12 h120
  have Hn := hide hn
  clear h hn
  go_enter Tryz.func23, Tryz.ntmps23
  go_wp2_with fail
  go_loopw [3, 4] (fun s i wr => ∃ k : Nat, k ≤ n ∧ s = .int .i64 (pends R.fs k) ∧ i = .int .i64 k ∧ w = wr) (fun _ i _ => n - (intOf i).toNat)
  case atStart => exact ⟨0, Nat.zero_le _, by simp [pends], rfl, rfl⟩
  case round =>
    obtain ⟨k, hk, rfl, rfl, rfl⟩ := hrel
    by_cases hlt : k < n
    · have hltI : (k : Int) < (n : Int) := by omega
      obtain ⟨f, hf⟩ : ∃ f, R.fs[k]? = some f := ⟨_, List.getElem?_eq_getElem (by rw [Hn.out]; exact hlt)⟩
      obtain ⟨gf, fk', e, _, hcf, _⟩ := H.out.fact hf
      rw [Hn.out] at e
      simp only [Value.slice.injEq] at e
      obtain ⟨rfl, _, rfl⟩ := e
      have e4 : w.cell? ⟨gf, k * 8 + 4, none⟩ = some (.int .i64 f.b.st) := hcf 4 _ rfl
      have hsuc := pends_succ hf
      have hpl := pends_le R.fs k
      have hwr : IntKind.i64.wrap ((pends R.fs k : Int) + 1) = (pends R.fs k : Int) + 1 := IntWalk.i64_in _ (by omega)
      by_cases hst : f.b.st = 1
      · rw [if_pos hst] at hsuc
        rw [hst] at e4
        have Hsuc := hide hsuc
        clear hcf hf hsuc
        go_wp2_with fail
        go_roundw
        case rel => exact ⟨k + 1, by omega, by rw [Hsuc.out]; rfl, by go_num, trivial⟩
        case measure => simp [intOf]; omega
      · rw [if_neg hst] at hsuc
        have hstb : (f.b.st == 1) = false := by simpa using hst
        have Hsuc := hide hsuc
        clear hcf hf hsuc
        go_wp2_with fail
        go_roundw
        case rel => exact ⟨k + 1, by omega, by rw [Hsuc.out]; rfl, by go_num, trivial⟩
        case measure => simp [intOf]; omega
    · obtain rfl : n = k := by omega
      have hltI : ¬ ((n : Int) < (n : Int)) := by omega
      go_wp2_with fail
      go_ret
      exact ⟨rfl, rfl⟩
end Go.Proofs.YtojpjaifhjigfaaGreatDoor

/- conduitkeep.Lively: its calls. -/
namespace Go.Proofs.YtojpjaifhjigfaaGreatDoor
open Go.RowKit Go.Maps

theorem not_ofR7 : ¬ ofR (some (7, .ag)) := fun h => by rcases h with ⟨q, e⟩ | ⟨q, e⟩ <;> cases e
theorem RK.flags {w wr : World} {L : Labs} {gr g cm : Nat} {zs : List Int} {N : Nat} {R : Rn} {M : Ag} {t : Nat} (h : RK w wr L gr g cm zs N R M t) : wr.cell? ⟨gr, 16, none⟩ = some (.bool true) ∧ wr.cell? ⟨gr, 17, none⟩ = some (.bool true) ∧ wr.cell? ⟨gr, 18, none⟩ = some (.bool true) := by
  obtain ⟨fv, wv, hP⟩ := h.at'
  exact ⟨hP.blk.1.cell 16, hP.blk.1.cell 17, hP.blk.1.cell 18⟩
theorem RK.cell1 {w wr : World} {L : Labs} {gr g cm : Nat} {zs : List Int} {N : Nat} {R : Rn} {M : Ag} {t dn : Nat} (h : RK w wr L gr g cm zs N R M t) (hd : (madeC zs).d = dn) : wr.cell? ⟨gr, 1, none⟩ = some (.int .i64 dn) := by
  obtain ⟨fv, wv, hP⟩ := h.at'
  rw [← hd]
  exact hP.blk.1.cell 1
theorem RK.below {w wr w' : World} {L : Labs} {gr g cm : Nat} {zs : List Int} {N : Nat} {R : Rn} {M : Ag} {t : Nat} (h : RK w wr L gr g cm zs N R M t) (hb : Below wr.heap.size wr w') : RK w w' L gr g cm zs N R M t :=
  h.same (h.at'.keep (Step.of_below (p := fun _ => False) hb) (fun _ h => h)) (h.ag.keep (Step.of_below (p := fun _ => False) hb) (fun _ h => h)) (Step.of_below hb)
theorem RK.osl {w wr : World} {L : Labs} {gr g cm : Nat} {zs : List Int} {N : Nat} {R : Rn} {M : Ag} {t dn : Nat} (h : RK w wr L gr g cm zs N R M t) (hd : (madeC zs).d = dn) : M.os.length = dn ∧ R.ws.length = dn := by
  have h1 := h.inv.ol
  have h2 := h.rw'.wl
  rw [h.c, hd] at h1
  omega
/-- All ways of the first k destinations are free. -/
def FreeTo (M : Ag) (k : Nat) : Prop := ∀ (d : Nat) (o : Out), d < k → M.os[d]? = some o → o.way = -1
theorem FreeTo.next {M M' : Ag} {k : Nat} (h : FreeTo M k) (r : RepliedTo M M' k) : FreeTo M' (k + 1) := fun d o hd ho => by
  by_cases e : d = k
  · subst e
    obtain ⟨o', h1, h2⟩ := r.way
    rw [h1] at ho
    cases ho
    exact h2
  · rw [r.os d e] at ho
    exact h d o (by omega) ho
/-- Between the ticks. -/
structure LivAt (w wr : World) (gr g cm : Nat) (zs : List Int) (N n t : Nat) (R : Rn) (M : Ag) (L : Labs) : Prop where
  k : RK w wr L gr g cm zs N R M t
  p : PInv M
  idle : ∀ (d : Nat) (o : Out), M.os[d]? = some o → o.way = -1
  cnt : ∀ (d : Nat) (o : Out), M.os[d]? = some o → pcount M.bs d ≤ n
theorem LivAt.over {w wr : World} {gr g cm : Nat} {zs : List Int} {N t dn : Nat} {R : Rn} {M : Ag} {L : Labs} (h : LivAt w wr gr g cm zs N 0 t R M L) (hd : (madeC zs).d = dn) : (R.fs.map Fa.b).countP (fun b => decide (b.st = 1)) = 0 := by
  rw [h.k.bs]
  refine pcount_all (dn := dn) (fun b hb => ?_) (fun d hdl => ?_)
  · obtain ⟨q1, q2, _⟩ := h.k.inv.each b hb
    rw [h.k.c, hd] at q2
    exact ⟨q1, q2⟩
  · obtain ⟨o, ho⟩ : ∃ o, M.os[d]? = some o := ⟨_, List.getElem?_eq_getElem (by rw [(h.k.osl hd).1]; exact hdl)⟩
    have := h.cnt d o ho
    omega
/-- Among the replies of a tick. -/
structure LivIn (w wr : World) (gr g cm : Nat) (zs : List Int) (N n t : Nat) (S : List Sd) (v : Value) (R : Rn) (M : Ag) (L : Labs) (j : Nat) : Prop where
  k : RK w wr L gr g cm zs N R M t
  p : PInv M
  liv : Liv (S.drop j) n M
  row : RowAt wr L (some (7, .ag)) 68 4 v S.length (S.flatMap Sd.cells)
theorem drop_at {α : Type} {l : List α} {j : Nat} {a : α} (h : l[j]? = some a) : l.drop j = a :: l.drop (j + 1) := by
  obtain ⟨hj, e⟩ := List.getElem?_eq_some_iff.1 h
  rw [List.drop_eq_getElem_cons hj, e]
/-- One reply among them. -/
theorem LivIn.reply {w wr : World} {gr g cm : Nat} {zs : List Int} {N n t dn : Nat} {S : List Sd} {v : Value} {R : Rn} {M : Ag} {L : Labs} {j : Nat} (h : LivIn w wr gr g cm zs N n t S v R M L j) (hd : (madeC zs).d = dn) (hnod : (S.map Sd.d).Nodup) (hall : ∀ s ∈ S, ∃ d : Nat, s.d = (d : Int) ∧ d < dn) (ht : t + 10 ≤ 4000000000000) {s : Sd} (hs : S[j]? = some s) :
    Calls Tryz.prog 22 #[.pointer (some ⟨gr, 0, none⟩), .int .i64 s.d, .bool true, .int .i64 0] wr fun e w' => e = .returned (.tuple #[]) ∧ ∃ R' M' L', LivIn w w' gr g cm zs N n (t + 1) S v R' M' L' (j + 1) := by
  obtain ⟨d, e, hdl⟩ := hall s (List.mem_of_getElem? hs)
  have hdrop := drop_at hs
  have hl : d < M.os.length := by rw [(h.k.osl hd).1]; exact hdl
  obtain ⟨o, ho⟩ : ∃ o, M.os[d]? = some o := ⟨_, List.getElem?_eq_getElem hl⟩
  have hliv := h.liv
  rw [hdrop] at hliv
  have hw : o.way ≠ -1 := (hliv.way d o ho).2 ⟨s, by simp, e⟩
  rw [e]
  refine (rreply_step w wr L gr g cm zs N R M t d o true 0 h.k ht (Int.le_refl _) ho hw).mono ?_
  rintro _ w' ⟨rfl, R', L', q1, _, q3⟩
  refine ⟨rfl, R', _, L', ⟨q1, h.p.replied h.k.inv (by omega) (Int.le_refl _) ho hw true, hliv.next e (fun s' hs' => ?_) (h.k.inv.repliedTo (by omega) ho hw) hl, h.row.keep q3 not_ofR7⟩⟩
  have hn2 : ((S.drop j).map Sd.d).Nodup := by rw [List.map_drop]; exact hnod.sublist (List.drop_sublist _ _)
  rw [hdrop, List.map_cons, List.nodup_cons] at hn2
  exact fun e2 => hn2.1 (List.mem_map.2 ⟨s', hs', e2⟩)
theorem LivIn.done {w wr : World} {gr g cm : Nat} {zs : List Int} {N n t : Nat} {S : List Sd} {v : Value} {R : Rn} {M : Ag} {L : Labs} (h : LivIn w wr gr g cm zs N n t S v R M L S.length) : LivAt w wr gr g cm zs N n t R M L := by
  have hl := h.liv
  rw [List.drop_length] at hl
  exact ⟨h.k, h.p, hl.idle.1, hl.idle.2⟩
/-- One tick. -/
theorem LivAt.tick {w wr : World} {gr g cm : Nat} {zs : List Int} {N n t dn : Nat} {R : Rn} {M : Ag} {L : Labs} {ms : Int} (h : LivAt w wr gr g cm zs N (n + 1) t R M L) (hd : (madeC zs).d = dn) (ht : t + 10 ≤ 4000000000000) (h1 : (madeC zs).ca ≤ ms) (h2 : (madeC zs).op ≤ ms) (h3 : ms ≤ 60000) :
    Calls Tryz.prog 24 #[.pointer (some ⟨gr, 0, none⟩), .int .i64 ms, .int .i64 0] wr fun e w' => ∃ va vk S R' M' L', e = .returned (.slice va S.length vk) ∧ S.length ≤ 4 ∧ (S.map Sd.d).Nodup ∧ (∀ s ∈ S, ∃ d : Nat, s.d = (d : Int) ∧ d < dn) ∧ LivIn w w' gr g cm zs N n (t + 1) S (.slice va S.length vk) R' M' L' 0 := by
  have hc := Cfg.ok h.k.inv.good.1
  rw [h.k.c] at hc
  have h0 : 0 ≤ ms := by have := hc.op; omega
  have hT := h.k.inv.tickLive h.p h.idle h0 (by rw [h.k.c]; exact h1) (by rw [h.k.c]; exact h2) h.cnt
  obtain ⟨_, _, hfew, _⟩ := ticked_by h.k.inv (ms := ms) (draw := 0) (by omega) h0 h3 (Int.le_refl _)
  have hol := (h.k.osl hd).1
  have hd4 : dn ≤ 4 := by have := hc.d; omega
  refine (rtick_any w wr L gr g cm zs N R M t ms 0 h.k ht h0 h3 (Int.le_refl _)).mono ?_
  rintro e w' ⟨v, R', L', rfl, q1, q2, _⟩
  obtain ⟨va, vk, rfl, _⟩ := q1.shape
  refine ⟨va, vk, _, R', _, L', rfl, by omega, hT.nod, fun s hs => ?_, ⟨q2, h.p.ticked h.k.inv (by omega) h0 h3 (Int.le_refl _), by rw [List.drop_zero]; exact hT.liv, q1⟩⟩
  obtain ⟨d, e1, e2⟩ := hT.all s hs
  exact ⟨d, e1, by omega⟩
end Go.Proofs.YtojpjaifhjigfaaGreatDoor

/- conduitkeep.Lively. -/
namespace Go.Proofs.YtojpjaifhjigfaaGreatDoor
open Go.RowKit Go.Maps

set_option maxRecDepth 100000 in
set_option maxHeartbeats 8000000 in
theorem lively_any (A : Nat → Addr) (la sa : Option Addr) (cap scap : Nat) (zs : List Int) (ss : List St) (w : World) (hS : Sents.Holds w 260 gl 11 A) (hr : ∀ z ∈ zs, InR z) (h : IntsAt w la zs) (h2 : StepsAt w sa ss) (hok : ∀ s ∈ ss, s.Ok) (hlen : ss.length ≤ 3600000000000) :
    Calls Tryz.prog 9 #[.slice la zs.length cap, .slice sa ss.length scap] w fun e w' => e = .returned (.bool true) ∧ Below w.heap.size w w' := by
  obtain ⟨N, hN⟩ : ∃ N, N = 1 + pickN (zs.getD 9 0) 4 := ⟨_, rfl⟩
  have HP := hide (kplayed_any A la sa cap scap zs ss N hN w hS hr h h2 hok hlen)
  have hcfg := Cfg.ok (made_good zs).1
  obtain ⟨dn, hdn⟩ : ∃ dn : Nat, (madeC zs).d = dn := ⟨(madeC zs).d.toNat, by have := hcfg.d; omega⟩
  have hdn4 : dn ≤ 4 := by have := hcfg.d; omega
  have hdn1 : 1 ≤ dn := by have := hcfg.d; omega
  obtain ⟨ca, hca⟩ : ∃ ca, (madeC zs).ca = ca := ⟨_, rfl⟩
  obtain ⟨op, hop⟩ : ∃ op, (madeC zs).op = op := ⟨_, rfl⟩
  have hca0 : 0 ≤ ca ∧ ca ≤ 60000 := by have := hcfg.ca; have := hcfg.ba; omega
  have hop0 : 0 ≤ op ∧ op ≤ 60000 := by have := hcfg.op; omega
  have Hdn := hide hdn
  have Hca := hide hca
  have Hop := hide hop
  generalize zs.length = nz at *
  generalize hns : ss.length = ns at *
  clear h hr hS h2 hok hns hcfg hN hdn hca hop
  go_enter Tryz.func9, Tryz.ntmps9
  go_wp2_with fail
  refine HP.out.mono ?_
  rintro e w1 ⟨gr, rfl, hR⟩
  obtain ⟨g, cm, R0, M0, L0, hK0, hP0⟩ := hR
  have HK0 := hide hK0
  have HP0 := hide hP0
  clear hK0 hP0 HP
  go_wp2_with fail
  go_loopw [6] (fun i wr => ∃ (k t : Nat) (R : Rn) (M : Ag) (L : Labs), k ≤ dn ∧ i = .int .i64 k ∧ t ≤ ns + 3 + k ∧ RK w wr L gr g cm zs N R M t ∧ PInv M ∧ FreeTo M k) (fun i _ => dn - (intOf i).toNat)
  case atStart => exact ⟨0, ns + 3, R0, M0, L0, Nat.zero_le _, rfl, Nat.le_refl _, HK0.out, HP0.out, fun d o hd => absurd hd (by omega)⟩
  case round =>
    clear HK0 HP0
    obtain ⟨k, t, R, M, L, hk, rfl, ht, hK, hPi, hF⟩ := hrel
    have c1 := hK.cell1 Hdn.out
    obtain ⟨hol, hwl⟩ := hK.osl Hdn.out
    by_cases hlt : k < dn
    · have hltI : (k : Int) < (dn : Int) := by omega
      obtain ⟨y, hy⟩ : ∃ y, R.ws[k]? = some y := ⟨_, List.getElem?_eq_getElem (by omega)⟩
      obtain ⟨o, ho⟩ : ∃ o, M.os[k]? = some o := ⟨_, List.getElem?_eq_getElem (by omega)⟩
      obtain ⟨yw, _, _⟩ := hK.rw'.ws k y o hy ho
      have hway := hK.inv.way k o ho
      obtain ⟨fv, wv, hP⟩ := hK.at'
      obtain ⟨gw, wk, rfl, _, hcw, _⟩ := hP.way hy
      have c13 : wr.cell? ⟨gr, 13, none⟩ = some (.slice (some ⟨gw, 0, none⟩) dn wk) := by have := hP.blk.1.cell 13; rw [← hwl]; exact this
      have y0 : wr.cell? ⟨gw, k * 3, none⟩ = some (.int .i64 y.f) := hcw 0 _ rfl
      have HK := hide hK
      have HPi := hide hPi
      have HF := hide hF
      by_cases hf : 0 ≤ y.f
      · have hfd : decide (0 ≤ y.f) = true := decide_eq_true hf
        have hw : o.way ≠ -1 := by omega
        have HRp := hide (rreply_step w wr L gr g cm zs N R M t k o true 0 hK (by omega) (Int.le_refl _) ho hw)
        have HPn := hide (hPi.replied hK.inv (by omega) (Int.le_refl 0) ho hw true)
        have HFn := hide (hF.next (hK.inv.repliedTo (by omega) ho hw))
        clear hK hPi hF hP hcw hy ho yw hway hol hwl HK HPi HF
        go_wp2_with fail
        refine HRp.out.mono ?_
        rintro e w2 ⟨rfl, R2, L2, q1, _, _⟩
        have HK2 := hide q1
        clear q1 HRp c1 c13 y0
        go_wp2_with fail
        go_roundw
        case rel => exact ⟨k + 1, t + 1, R2, _, L2, by omega, by go_num, by omega, HK2.out, HPn.out, HFn.out⟩
        case measure => simp [intOf]; omega
      · have hfd : decide (0 ≤ y.f) = false := decide_eq_false hf
        have hwm : o.way = -1 := by
          rcases hway with e | ⟨p, b, e, _⟩
          · exact e
          · omega
        have HFn : Hid (FreeTo M (k + 1)) := fun d o1 hd ho1 => by
          by_cases e : d = k
          · subst e
            rw [ho] at ho1
            cases ho1
            exact hwm
          · exact hF d o1 (by omega) ho1
        clear hK hPi hF hP hcw hy ho yw hway hol hwl HF
        go_wp2_with fail
        go_roundw
        case rel => exact ⟨k + 1, t, R, M, L, by omega, by go_num, by omega, HK.out, HPi.out, HFn.out⟩
        case measure => simp [intOf]; omega
    · obtain rfl : dn = k := by omega
      have hltI : ¬ ((dn : Int) < (dn : Int)) := by omega
      have hfl : R.fs.length ≤ 100 := by rw [← hK.n]; exact hK.n100
      have hpb : (R.fs.map Fa.b).countP (fun b => decide (b.st = 1)) ≤ 100 := Nat.le_trans List.countP_le_length (by rw [List.length_map]; exact hfl)
      obtain ⟨pn, hpn⟩ : ∃ pn, (R.fs.map Fa.b).countP (fun b => decide (b.st = 1)) = pn := ⟨_, rfl⟩
      have HPend : Hid (∀ W, Below wr.heap.size wr W → Calls Tryz.prog 23 #[.pointer (some ⟨gr, 0, none⟩)] W fun e w' => e = .returned (.int .i64 pn) ∧ W = w') := fun W hW => by
        have := kpending_any L gr g cm (madeC zs) R W (hK.at'.keep (Step.of_below (p := fun _ => False) hW) (fun _ h => h)) (by omega)
        rw [hpn] at this
        exact this
      have hpn100 : pn ≤ 100 := by rw [← hpn]; exact hpb
      have HLv : Hid (∀ W, Below wr.heap.size wr W → LivAt w W gr g cm zs N (pn + 2 * dn) t R M L) := fun W hW => ⟨hK.below hW, hPi, fun d o ho => hF d o (by rw [← hol]; exact (List.getElem?_eq_some_iff.1 ho).1) ho, fun d o ho => by
        have h1 := pcount_le M.bs d
        rw [← hK.bs, hpn] at h1
        rw [← hK.bs]
        omega⟩
      obtain ⟨fv, wv, hP⟩ := hK.at'
      have c6 : wr.cell? ⟨gr, 6, none⟩ = some (.int .i64 ca) := by rw [← Hca.out]; exact hP.blk.1.cell 6
      have c11 : wr.cell? ⟨gr, 11, none⟩ = some (.int .i64 op) := by rw [← Hop.out]; exact hP.blk.1.cell 11
      clear hK hPi hF hP hpn hpb hol hwl
      obtain ⟨lng, hlng⟩ : ∃ lng, max ca op = lng := ⟨_, rfl⟩
      have hl1 : ca ≤ lng := by rw [← hlng]; exact Int.le_max_left _ _
      have hl2 : op ≤ lng := by rw [← hlng]; exact Int.le_max_right _ _
      have hl3 : lng ≤ 60000 := by rw [← hlng]; omega
      go_wp2_with fail
      go_cut [7] (fun s7 wx => s7 = .int .i64 lng ∧ Below wr.heap.size wr wx)
      case first =>
        go_region_held3 (fun w' => w'.cell? ⟨gr, 6, none⟩ = some (.int .i64 ca) ∧ w'.cell? ⟨gr, 11, none⟩ = some (.int .i64 op)) (go_keep) (fail)
        all_goals
          go_wp2_with fail
          go_meet
          exact ⟨rfl, (Below.refl _ _).drew⟩
      case rest =>
        obtain ⟨rfl, hbc⟩ := hcut
        have HLv1 : Hid (∀ W, Below wc.heap.size wc W → LivAt w W gr g cm zs N (pn + 2 * dn) t R M L) := fun W hW => HLv.out W (hbc.trans (hW.mono hbc.size))
        have HPd1 : Hid (∀ W, Below wc.heap.size wc W → Calls Tryz.prog 23 #[.pointer (some ⟨gr, 0, none⟩)] W fun e w' => e = .returned (.int .i64 pn) ∧ W = w') := fun W hW => HPend.out W (hbc.trans (hW.mono hbc.size))
        have d1 : wc.cell? ⟨gr, 1, none⟩ = some (.int .i64 dn) := (HLv1.out wc (Below.refl _ _)).k.cell1 Hdn.out
        have hw1 : IntKind.i64.wrap (2 * (dn : Int)) = 2 * (dn : Int) := IntWalk.i64_in _ (by omega)
        have hw2 : IntKind.i64.wrap ((pn : Int) + 2 * (dn : Int)) = (pn : Int) + 2 * (dn : Int) := IntWalk.i64_in _ (by omega)
        clear hbc HLv HPend c1 c6 c11 hltI
        go_wp2_with fail
        go_cut [8] (fun s8 wx => s8 = .int .i64 ((pn : Int) + 2 * (dn : Int)) ∧ Below wc.heap.size wc wx)
        case first =>
          go_region_held3 (fun w' => w'.cell? ⟨gr, 1, none⟩ = some (.int .i64 dn)) (go_keep)
            (first | (go_at_call 23; refine (HPd1.out _ (by first | exact Below.refl _ _ | exact (Below.refl _ _).drew)).mono ?_; rintro _ _ ⟨rfl, rfl⟩))
          all_goals
            go_wp2_with fail
            go_meet
            exact ⟨rfl, (Below.refl _ _).drew⟩
        case rest =>
          obtain ⟨rfl, hbd⟩ := hcut
          have HL2 := hide (HLv1.out _ hbd)
          have hn108 : pn + 2 * dn ≤ 108 := by omega
          clear hbd HLv1 HPd1 d1 hw1 hw2
          go_wp2_with fail
          go_loopw [8] (fun i wr => ∃ (n t : Nat) (R : Rn) (M : Ag) (L : Labs), n ≤ 108 ∧ i = .int .i64 n ∧ t + 6 * n ≤ 3700000000000 ∧ LivAt w wr gr g cm zs N n t R M L) (fun i _ => (intOf i).toNat)
          case atStart => exact ⟨pn + 2 * dn, t, R, M, L, hn108, by simp, by omega, HL2.out⟩
          case round =>
            clear HL2
            obtain ⟨n, t, R, M, L, hn, rfl, ht, hLv⟩ := hrel
            by_cases hpos : 0 < n
            · have hposI : (0 : Int) < (n : Int) := by omega
              obtain ⟨m, rfl⟩ : ∃ m, n = m + 1 := ⟨n - 1, by omega⟩
              have HTk := hide (hLv.tick Hdn.out (by omega) (by rw [Hca.out]; exact hl1) (by rw [Hop.out]; exact hl2) hl3)
              have hws : IntKind.i64.wrap (((m + 1 : Nat) : Int) - 1) = (m : Int) := by rw [show ((m + 1 : Nat) : Int) - 1 = (m : Int) from by omega]; exact IntWalk.i64_in _ (by omega)
              clear hLv
              generalize hmi : ((m + 1 : Nat) : Int) = mi at *
              go_wp2_with fail
              refine HTk.out.mono ?_
              rintro e w2 ⟨va, vk, S, R2, M2, L2, rfl, hS4, hnod, hall, hIn⟩
              obtain ⟨_, k17, _⟩ := hIn.k.flags
              have HIn := hide hIn
              have Hnod := hide hnod
              have Hall := hide hall
              obtain ⟨sl, hsl⟩ : ∃ sl, S.length = sl := ⟨_, rfl⟩
              have Hsl := hide hsl
              rw [hsl]
              clear hIn hnod hall HTk hsl
              go_wp2_with fail
              go_loopw [10] (fun i wr => ∃ (j : Nat) (R : Rn) (M : Ag) (L : Labs), j ≤ sl ∧ i = .int .i64 j ∧ LivIn w wr gr g cm zs N m (t + 1 + j) S (.slice va S.length vk) R M L j) (fun i _ => sl - (intOf i).toNat)
              case atStart => exact ⟨0, R2, M2, L2, Nat.zero_le _, rfl, HIn.out⟩
              case round =>
                clear HIn k17
                obtain ⟨j, R, M, L, hj, rfl, hI⟩ := hrel
                have hsl4 : sl ≤ 4 := by rw [← Hsl.out]; exact hS4
                by_cases hjl : j < sl
                · have hjI : (j : Int) < (sl : Int) := by omega
                  obtain ⟨s, hs⟩ : ∃ s, S[j]? = some s := ⟨_, List.getElem?_eq_getElem (by rw [Hsl.out]; exact hjl)⟩
                  have hrow := hI.row
                  rw [Hsl.out] at hrow
                  obtain ⟨gs, rfl, _, _, hcs, _⟩ := hrow.head (by omega)
                  have s0 : wr.cell? ⟨gs, j * 4, none⟩ = some (.int .i64 s.d) := hcs _ _ (flat_cell Sd.cells 4 (fun _ => rfl) hs (j := 0) (by omega) rfl)
                  have HRp := hide (hI.reply Hdn.out Hnod.out Hall.out (by omega) hs)
                  clear hI hrow hcs hs
                  go_wp2_with fail
                  refine HRp.out.mono ?_
                  rintro e w3 ⟨rfl, R3, M3, L3, hI3⟩
                  have HI3 := hide hI3
                  clear hI3 HRp s0
                  go_wp2_with fail
                  go_roundw
                  case rel => exact ⟨j + 1, R3, M3, L3, by omega, by go_num, by rw [show t + 1 + (j + 1) = t + 1 + j + 1 from by omega]; exact HI3.out⟩
                  case measure => simp [intOf]; omega
                · obtain rfl : sl = j := by omega
                  have hjI : ¬ ((sl : Int) < (sl : Int)) := by omega
                  have HLn := hide ((by rw [← Hsl.out] at hI; exact hI.done : LivAt w wr gr g cm zs N m (t + 1 + S.length) R M L))
                  clear hI
                  go_wp2_with fail
                  go_roundw
                  case rel => exact ⟨m, t + 1 + S.length, R, M, L, by omega, by go_num, by omega, HLn.out⟩
                  case measure => simp [intOf]; omega
            · obtain rfl : n = 0 := by omega
              have HPz : Hid (Calls Tryz.prog 23 #[.pointer (some ⟨gr, 0, none⟩)] wr fun e w' => e = .returned (.int .i64 0) ∧ wr = w') := by
                have q := kpending_any L gr g cm (madeC zs) R wr hLv.k.at' (by rw [← hLv.k.n]; have := hLv.k.n100; omega)
                rw [hLv.over Hdn.out] at q
                exact q
              obtain ⟨k16, k17, k18⟩ := hLv.k.flags
              have HB := hide hLv.k.b
              clear hLv
              go_wp2_with fail
              refine HPz.out.mono ?_
              rintro _ _ ⟨rfl, rfl⟩
              go_wp2_with fail
              go_ret
              exact ⟨rfl, HB.out⟩
end Go.Proofs.YtojpjaifhjigfaaGreatDoor

/- What every proof over this seat takes of the rows: the listed error variables, and a world that meets them. -/
namespace Go.Proofs.YtojpjaifhjigfaaGreatDoor
open Go.ChangeShapes Go.WideShapes Go.ChangeAt Go.WideMaps Go.WideElems Go.RowKit

theorem own : ownKnob Tryz.prog.godebug = none := by kernel_rfl
theorem cells142 : Tryz.prog.cellsOf 274 = 1 := by kernel_rfl
theorem cells9 : Tryz.prog.cellsOf 9 = 1 := by kernel_rfl
theorem star : "*" ++ "errors.errorString" = "*errors.errorString" := by decide
theorem row121 (u : TypeId) (h : Tryz.prog.typeName? 3 u = some "*errors.errorString") : u = 260 :=
  typeName_ptr_named (nm := "errors.errorString") (by rw [star]; kernel_rfl) (by kernel_rfl) (by decide) u (by rw [star]; exact h)

/-- The listed variables, as the condition has them. -/
abbrev laidAll : List (String × DataW Unit) := Rows.opensRow.laid

theorem listed : Sents.Listed Tryz.prog 71 "*errors.errorString" gl laidAll :=
  ⟨⟨_, rfl⟩, by kernel_rfl, by kernel_rfl, ⟨_, rfl⟩, by kernel_rfl, by kernel_rfl, ⟨_, rfl⟩, by kernel_rfl, by kernel_rfl, ⟨_, rfl⟩, by kernel_rfl, by kernel_rfl, ⟨_, rfl⟩, by kernel_rfl, by kernel_rfl, ⟨_, rfl⟩, by kernel_rfl, by kernel_rfl,
   ⟨_, rfl⟩, by kernel_rfl, by kernel_rfl, ⟨_, rfl⟩, by kernel_rfl, by kernel_rfl, ⟨_, rfl⟩, by kernel_rfl, by kernel_rfl, ⟨_, rfl⟩, by kernel_rfl, by kernel_rfl, ⟨_, rfl⟩, by kernel_rfl, by kernel_rfl, trivial⟩

theorem sents_of {W : World} (h : laidMetH Tryz.prog laidAll W) : ∃ A : Nat → Addr, Sents.Holds W 260 gl 11 A := by
  rw [MakeChecks.laidMetH_plain _ _ _ (by kernel_rfl)] at h
  exact Sents.of_laid Tryz.underlying71 row121 Tryz.underlying260 Tryz.underlying274 rfl rfl Tryz.underlying9 cells142 cells9 listed h

/-- The door's own heap meets the condition. -/
theorem door_met (os : Os) (args : Array Value) : laidMetH Tryz.prog laidAll ((World.doorLaid Tryz.prog 400 os).forCall (fun _ _ => 0) ⟨#[], args, []⟩).memory :=
  laidMetH_of_parts3 (fuel := 8) (laidMet_of_run' 8 (by kernel_rfl) (by kernel_rfl)) (by kernel_rfl) (by kernel_rfl)

end Go.Proofs.YtojpjaifhjigfaaGreatDoor
