/- written: the record of one event. -/
import Derived.Test.YtojpjaifhjigfaaGreatDoorBytes
namespace Go.Proofs.YtojpjaifhjigfaaGreatDoor
open Go.RowKit Go.Maps

theorem infoEvent : (Tryz.prog.info? 151).map (·.size) = some 7 := by kernel_rfl
def evCells (b : Bat) : List Value := [.int .i64 0, .int .i64 b.dst, encStr b.ten, encStr b.id, encStr b.body, .int .i64 0, .int .i64 0]
theorem evVal_cells (b : Bat) : evVal b = .agg (evCells b).toArray := rfl
/-- The bytes of the record of a batch that was taken. -/
def recBytes (b : Bat) : List UInt8 := [43, 0, UInt8.ofNat (evBytes b).length] ++ evBytes b
theorem evBytes_le (b : Bat) (ht : b.ten.length ≤ 16) (hid : b.id.length ≤ 16) (hbo : b.body.length ≤ 63) : (evBytes b).length ≤ 100 := by
  simp [evBytes, evParts, part]
  omega

theorem head_row (w : World) (x y z : Value) : (w.alloc (.cells #[x, y, z] 5)).ownsRow 0 5 1 (.slice (some ⟨w.heap.size, 0, none⟩) 3 3) 3 [x, y, z] :=
  ⟨rfl, Or.inr ⟨_, _, _, rfl, Nat.zero_le _, obj_new rfl _, Nat.le_refl _, by unfold maxLen; omega, rfl, rfl⟩⟩

theorem convert_row {w : World} {g cap m : Nat} {b : Bat} (h : w.ownsRow 0 5 1 (.slice (some ⟨g, 0, none⟩) (3 + m) cap) (3 + m) ([.int .u8 43, .int .u8 0, .int .u8 (m : Int)] ++ byts (evBytes b))) (hm : (evBytes b).length = m) (hm2 : (m : Int) < 256) :
    (convert 156 9 (.slice (some ⟨g, 0, none⟩) (3 + m) cap)).run Tryz.prog w = .ok (encStr (recBytes b)) w := by
  have hl : (recBytes b).length = 3 + m := by simp [recBytes, hm]; omega
  have e : [.int .u8 43, .int .u8 0, .int .u8 (m : Int)] ++ byts (evBytes b) = byts (recBytes b) := by
    unfold recBytes
    rw [byts_append]
    congr 1
    simp only [byts, List.map_cons, List.map_nil, hm, u8_of (show m < 256 by omega)]
    rfl
  rw [e] at h
  rw [← hl]
  refine run_convert_bytes_back w 156 9 5 ⟨g, 0, none⟩ cap (recBytes b) Tryz.underlying156 Tryz.underlying5 Tryz.underlying9 (fun j hj => ?_)
  exact h.cells (by simp [Value.ownBlock]) j _ (by simp [byts, hj])

set_option maxRecDepth 100000 in
set_option maxHeartbeats 2000000 in
theorem written_take (ge : Nat) (b : Bat) (w : World) (he : Blk w ge (evCells b).toArray 151) (hd : 0 ≤ b.dst ∧ b.dst < 4) (ht : b.ten.length ≤ 16) (hid : b.id.length ≤ 16) (hbo : b.body.length ≤ 63) :
    Calls Tryz.prog 110 #[.int .u8 43, .slice (some ⟨ge, 0, none⟩) 1 1] w fun e w' => e = .returned (encStr (recBytes b)) ∧ Below w.heap.size w w' := by
  obtain ⟨i0, hi, hz0, hz1, hz2⟩ := info_parts infoByte
  have hle := evBytes_le b ht hid hbo
  have hpos : 0 < (evBytes b).length := by simp [evBytes]
  have HE := hide he
  clear he
  go_enter Tryz.func110, Tryz.ntmps110
  go_wp2_with fail
  refine wp_loop_rounds 2 ?_
  rw [rounds_succ]
  go_wp2_with (first
    | (refine wpList_load_mid rfl 151 _ rfl ge 0 rfl [.int .i64 0, .int .i64 b.dst, encStr b.ten, encStr b.id, encStr b.body, .int .i64 0, .int .i64 0] _ (HE.out.range 0 _ rfl) Tryz.underlying151 rfl infoEvent ?_)
    | fail)
  refine (appendEvent_take (.slice none 0 0) 0 [] b _ (World.ownsRow_nil _ _ _ _) (by omega) hd ht hid hbo).mono ?_
  rintro e w1 ⟨g1, cap1, rfl, ho1, hg1, _⟩
  simp only [Nat.zero_add, List.nil_append] at ho1
  generalize hm : (evBytes b).length = m at *
  have Ho1 := hide ho1
  have HB1 : Hid (Below w.heap.size w w1) := ((Below.refl _ _).alloc (Nat.le_refl _) _).grown hg1 (by simp) (fun j hj => by simp [Value.ownBlock] at hj)
  have hmI : (m : Int) < 256 := by omega
  have hbl : (byts (evBytes b)).length = m * 1 := by simp [byts, hm]
  have Hm := hide hm
  clear hm
  have hm0 : (m : Int) / 256 = 0 := by omega
  clear ho1 hg1
  rw [Nat.zero_add]
  go_wp2_with fail
  rw [rounds_succ]
  go_wp2_with (first
    | (at_builtin; refine wpList_append_lies _ rfl _ _ 156 rfl 0 5 i0 (.int .u8 0) 1 1 Tryz.underlying156 hi hz0 hz1 hz2 rfl (by decide) (.slice (some ⟨w1.heap.size, 0, none⟩) 3 3) _ [.int .u8 43, .int .u8 0, .int .u8 m] rfl (head_row w1 _ _ _) ⟨g1, 0, none⟩ m cap1 (byts (evBytes b)) rfl hbl (fun j u hu => cell?_alloc_old _ (Ho1.out.cells (by simp [Value.ownBlock]) j u hu)) (by simp [byts, Value.oneCell']) (by omega) (by unfold maxLen; omega) (by omega) (Nat.zero_le _) (w1.heap.size + 1) (by simp) ?_; intro g2 cap2 w2 hown2 hg2 hat2 hlt2; have hcv := convert_row hown2 Hm.out hmI; have HB2 : Hid (Below w.heap.size w w2) := (HB1.out.alloc HB1.out.size _).grown hg2 (by simp; exact Nat.le_succ_of_le HB1.out.size) (fun j hj => by (have e : w1.heap.size = j := by simpa [Value.ownBlock] using hj); rw [← e]; exact HB1.out.size); clear hown2 hg2 hat2)
    | fail)
  go_ret
  exact ⟨rfl, HB2.out⟩
end Go.Proofs.YtojpjaifhjigfaaGreatDoor
