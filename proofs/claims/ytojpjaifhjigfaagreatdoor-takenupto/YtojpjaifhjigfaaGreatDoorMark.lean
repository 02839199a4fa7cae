/- conduitlaw.mark: what the owner of a list writes into it. -/
import Derived.Test.YtojpjaifhjigfaaGreatDoorWaiting
namespace Go.Proofs.YtojpjaifhjigfaaGreatDoor
open Go.RowKit Go.Maps

/-- The letters of a mark, with enough fuel. -/
def mkF : Nat → Nat → List UInt8 → List UInt8
  | 0, _, s => s
  | f + 1, n, s => if n = 0 then s else mkF f (n / 26) (s ++ [UInt8.ofNat (65 + n % 26)])
def mkBase : List UInt8 := [116, 104, 101, 32, 99, 97, 108, 108, 101, 114, 39, 115, 32]
def mkB (n : Nat) : List UInt8 := mkF n n mkBase

theorem mkF_zero (f : Nat) (s : List UInt8) : mkF f 0 s = s := by cases f <;> simp [mkF]
theorem mkF_fuel : ∀ (f g n : Nat) (s : List UInt8), n ≤ f → n ≤ g → mkF f n s = mkF g n s := by
  intro f
  induction f with
  | zero => intro g n s h1 h2; have : n = 0 := by omega
            subst this; rw [mkF_zero, mkF_zero]
  | succ f ih =>
    intro g n s h1 h2
    cases g with
    | zero => have : n = 0 := by omega
              subst this; rw [mkF_zero, mkF_zero]
    | succ g =>
      simp only [mkF]
      split
      · rfl
      · exact ih g (n / 26) _ (by omega) (by omega)
theorem mkF_step (n : Nat) (s : List UInt8) (h : 0 < n) : mkF n n s = mkF (n / 26) (n / 26) (s ++ [UInt8.ofNat (65 + n % 26)]) := by
  obtain ⟨f, rfl⟩ : ∃ f, n = f + 1 := ⟨n - 1, by omega⟩
  simp only [mkF]
  rw [if_neg (by omega)]
  exact mkF_fuel _ _ _ _ (by omega) (Nat.le_refl _)

set_option maxRecDepth 100000 in
set_option maxHeartbeats 400000 in
theorem mark_any (n : Nat) (w : World) (hn : (n : Int) ≤ 8000000) : Calls Tryz.prog 55 #[.int .i64 n] w fun e w' => e = .returned (encStr (mkB n)) ∧ Below w.heap.size w w' := by
  go_enter Tryz.func55, Tryz.ntmps55
  go_wp2_with fail
  go_loopw [0, 3] (fun a b wr => ∃ (k : Nat) (s : List UInt8), a = .int .i64 k ∧ b = encStr s ∧ k ≤ n ∧ s.length + k ≤ 13 + n ∧ Hid (mkF k k s = mkB n) ∧ Below w.heap.size w wr) (fun a _ _ => (intOf a).toNat)
  case atStart => exact ⟨n, mkBase, rfl, rfl, Nat.le_refl _, by simp [mkBase], rfl, Below.refl _ _⟩
  case round =>
    obtain ⟨k, s, rfl, rfl, hk, hl, HF, hnx⟩ := hrel
    have Hnx := hide hnx
    clear hnx
    by_cases h0 : 0 < k
    · have h0I : (0 : Int) < (k : Int) := by omega
      have hcv : (convert 156 9 (.slice (some ⟨wr.heap.size, 0, none⟩) 1 1)).run Tryz.prog (wr.alloc (.cells #[.int .u8 (65 + (k : Int) % 26)] 5)) = .ok (.string ⟨[UInt8.ofNat (65 + k % 26)].toArray⟩) (wr.alloc (.cells #[.int .u8 (65 + (k : Int) % 26)] 5)) :=
        run_convert_bytes_back _ 156 9 5 ⟨wr.heap.size, 0, none⟩ 1 [UInt8.ofNat (65 + k % 26)] Tryz.underlying156 Tryz.underlying5 Tryz.underlying9 (fun j hj => by
          have e : j = 0 := by simpa using hj
          subst e
          rw [show ((⟨wr.heap.size, 0, none⟩ : Addr).add 0) = ⟨wr.heap.size, 0, none⟩ from rfl, World.cell?_alloc_new]
          have e2 : ((UInt8.ofNat (65 + k % 26)).toNat : Int) = 65 + (k : Int) % 26 := by
            rw [UInt8.toNat_ofNat']; omega
          simp only [List.getElem_cons_zero]
          rw [e2]
          rfl)
      have had := fun W => run_string_add_lists (P := Tryz.prog) W s [UInt8.ofNat (65 + k % 26)] (by omega) (by simp)
      go_wp2_with fail
      go_roundw
      case rel => exact ⟨k / 26, s ++ [UInt8.ofNat (65 + k % 26)], by go_num, by simp [encStr, ByteArray.mk_append_mk], by omega, by simp; omega, by rw [← mkF_step k s h0]; exact HF, Hnx.out.alloc Hnx.out.size _⟩
      case measure => simp [intOf]; omega
    · have e : k = 0 := by omega
      subst e
      go_wp2_with fail
      go_ret
      exact ⟨by have := HF.out; simp only [mkF] at this; rw [← this]; rfl, Hnx.out⟩
end Go.Proofs.YtojpjaifhjigfaaGreatDoor
