/- 'queues[key] = append(queues[key], place)': the entry, and the store into it. -/
import Derived.Test.YtojpjaifhjigfaaGreatDoorWritten
import Derived.WideKeyEntry
import Derived.Deep.RegionLaw
namespace Go.Proofs.YtojpjaifhjigfaaGreatDoor
open Go.RowKit Go.Maps

/-- What is handed over with an entry: a store into it puts the value at its key. -/
def EntryBack (w1 : World) (b st n : Nat) (kl : Lit) (D : DataW Value) : Prop := ∀ (w2 : World) (a : Option Addr) (len cap : Nat), w2.heap[b]? = w1.heap[b]? →
  ∃ w3, (Instr.entryStore 132 (.map (some b)) (.int .i64 st) (.slice a len cap)).run Tryz.prog w2 = .ok () w3 ∧ w3.ownsMap Tryz.prog 202 Rq b (n + 1) (D.put kl (.held (.slice a len cap))) ∧ w2.grownBy w3 (some b)

theorem zeroInts (w : World) : (zeroValue 51).run Tryz.prog w = .ok (.slice none 0 0) w := by kernel_rfl

theorem entry_queue {w : World} {b n : Nat} {D : DataW Value} (h : w.ownsMap Tryz.prog 202 Rq b n D) (hn : n < maxLen) {d : Int} {t : List UInt8} (hl : LaneOk d t) :
    ∃ (a : Option Addr) (len cap st : Nat) (w1 : World), (Instr.mapEntry 132 (.map (some b)) (laneVal d t)).run Tryz.prog w = .ok (.tuple #[.slice a len cap, .int .i64 st]) w1 ∧ hdr D d t = .slice a len cap ∧ w.grownBy w1 (some b) ∧ EntryBack w1 b st n (laneKey d t) D := by
  have h0 := h
  obtain ⟨es, clock, hb, F, hs, hD⟩ := h
  have hkey := keyOf_lane hl
  obtain ⟨v0, st, es1, clock1, hrun, hv0, hback⟩ := WideElems.entry_then_store klawLane Tryz.underlying132 (z := .slice none 0 0) zeroInts hb F hkey
  have hsh : ∃ a len cap, v0 = .slice a len cap ∧ D.atKey (laneKey d t) (.held (.slice none 0 0)) = .held v0 := by
    rw [hD]
    rcases Maps.fit_look false lawLane Tryz.underlying132 (zeroInts w) hb F hkey with ⟨_, hno, hat⟩ | ⟨e1, y, hm1, hk1, _, hR1, hat, _⟩
    · rcases hv0 with ⟨e0, hm0, hk0, _⟩ | ⟨_, rfl⟩
      · exact absurd hk0 (hno e0 hm0)
      · exact ⟨_, _, _, rfl, hat _⟩
    · rcases hv0 with ⟨e0, hm0, hk0, rfl⟩ | ⟨hno, _⟩
      · have hpw : es.toList.Pairwise (fun x y => x.key ≠ y.key) := by
          have := F.stamped.2.2
          rw [List.nodup_iff_pairwise_ne, List.pairwise_map] at this
          exact this
        obtain rfl : e0 = e1 := entry_eq_of_key hpw hm0 hm1 (hk0.trans hk1.symm)
        rw [hat]
        unfold Rq at hR1
        split at hR1
        · rename_i a len cap he
          refine ⟨a, len, cap, he, ?_⟩
          rw [← Option.some.inj hR1]
        · cases hR1
      · exact absurd hk1 (hno e1 hm1)
  obtain ⟨a, len, cap, rfl, hat⟩ := hsh
  refine ⟨a, len, cap, st, _, hrun, by simp [hdr, hat], ⟨rfl, rfl, rfl, by simp [ChangeMaps.setBlock], fun k _ hk => ChangeMaps.heap_setBlock_other hb _ (fun e => hk (by rw [e]))⟩, fun w2 a' len' cap' hw2 => ?_⟩
  rw [ChangeMaps.heap_setBlock_same hb] at hw2
  obtain ⟨es', clock', hst, hup⟩ := hback w2 (.slice a' len' cap') hw2
  obtain ⟨w', hup', hown', _⟩ := h0.update lawLane Tryz.underlying132 hn (val := .slice a' len' cap') (d := .held (.slice a' len' cap')) (ps := []) hkey rfl
  rw [hup] at hup'
  have hw' : ChangeMaps.setBlock w b (.map es' clock') = w' := by
    have := hup'
    simp only [Result.ok.injEq, true_and] at this
    exact this
  obtain ⟨es2, clock2, hb2, F2, hs2, hD2⟩ := hown'
  rw [← hw', ChangeMaps.heap_setBlock_same hb] at hb2
  simp only [Option.some.injEq, Obj.map.injEq] at hb2
  obtain ⟨rfl, rfl⟩ := hb2
  exact ⟨_, hst, ⟨es', clock', ChangeMaps.heap_setBlock_same hw2 _, F2, hs2, hD2⟩, ⟨rfl, rfl, rfl, by simp [ChangeMaps.setBlock], fun k _ hk => ChangeMaps.heap_setBlock_other hw2 _ (fun e => hk (by rw [e]))⟩⟩

end Go.Proofs.YtojpjaifhjigfaaGreatDoor
