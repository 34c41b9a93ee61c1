import Derived.Test.YtkhlhokolfaieaaGreatDoorB2
/-
  What an answer looks like, by the verifier's own package: the two answers that 'alive' asks for.
-/
namespace Go.Proofs.YtkhlhokolfaieaaGreatDoor
open Go.RowKit

/-- 'string([]byte{d})'. -/
theorem byte_string (w : World) (d : UInt8) : (convert 56 9 (.slice (some ⟨w.heap.size, 0, none⟩) 1 1)).run Tryz.prog (w.alloc (.cells #[.int .u8 d.toNat] 5)) = .ok (.string ⟨#[d]⟩) (w.alloc (.cells #[.int .u8 d.toNat] 5)) := by
  refine row_string (bs := [d]) ⟨by simp, Or.inr ⟨w.heap.size, 1, #[.int .u8 d.toNat], rfl, Nat.zero_le _, heap_alloc_new w _, Nat.le_refl _, by decide, rfl, rfl⟩⟩

set_option maxHeartbeats 800000 in
set_option maxRecDepth 100000 in
theorem decimal0 (w : World) : Calls Tryz.prog 41 #[.int .i64 0] w fun e w' => e = .returned (.string ⟨#[48]⟩) ∧ Upd (fun _ => False) w w' := by
  have hb := byte_string w 48
  have e48 : ((48 : UInt8).toNat : Int) = 48 := rfl
  rw [e48] at hb
  go_enter Tryz.func41, Tryz.ntmps41
  go_wp2
  go_ret
  exact ⟨rfl, (Upd.refl _ w).alloc _⟩
set_option maxHeartbeats 800000 in
set_option maxRecDepth 100000 in
theorem decimal2 (w : World) : Calls Tryz.prog 41 #[.int .i64 2] w fun e w' => e = .returned (.string ⟨#[50]⟩) ∧ Upd (fun _ => False) w w' := by
  have hb := byte_string w 50
  have e48 : ((50 : UInt8).toNat : Int) = 50 := rfl
  rw [e48] at hb
  go_enter Tryz.func41, Tryz.ntmps41
  go_wp2
  go_ret
  exact ⟨rfl, (Upd.refl _ w).alloc _⟩

set_option maxHeartbeats 800000 in
set_option maxRecDepth 100000 in
theorem status201 (w : World) : Calls Tryz.prog 40 #[.int .i64 201] w fun e w' => e = .returned (.string ⟨#[50, 48, 49, 32, 67, 114, 101, 97, 116, 101, 100]⟩) ∧ w' = w := by
  go_enter Tryz.func40, Tryz.ntmps40
  go_wp2
  go_ret
  exact ⟨rfl, rfl⟩
set_option maxHeartbeats 800000 in
set_option maxRecDepth 100000 in
theorem status200 (w : World) : Calls Tryz.prog 40 #[.int .i64 200] w fun e w' => e = .returned (.string ⟨#[50, 48, 48, 32, 79, 75]⟩) ∧ w' = w := by
  go_enter Tryz.func40, Tryz.ntmps40
  go_wp2
  go_ret
  exact ⟨rfl, rfl⟩

/-- The two answers. -/
def wr201 : List UInt8 := [72, 84, 84, 80, 47, 49, 46, 49, 32, 50, 48, 49, 32, 67, 114, 101, 97, 116, 101, 100, 13, 10, 67, 111, 110, 116, 101, 110, 116, 45, 76, 101, 110, 103, 116, 104, 58, 32, 48, 13, 10, 13, 10]
def wr200 : List UInt8 := [72, 84, 84, 80, 47, 49, 46, 49, 32, 50, 48, 48, 32, 79, 75, 13, 10, 67, 111, 110, 116, 101, 110, 116, 45, 76, 101, 110, 103, 116, 104, 58, 32, 50, 13, 10, 13, 10, 104, 105]

set_option maxHeartbeats 800000 in
set_option maxRecDepth 100000 in
theorem written201 (w : World) : Calls Tryz.prog 19 #[.int .i64 201, .string ⟨#[]⟩, .bool false, .bool false] w fun e w' => e = .returned (.string ⟨wr201.toArray⟩) ∧ Upd (fun _ => False) w w' := by
  go_enter Tryz.func19, Tryz.ntmps19
  go_wp2_with fail
  refine (status201 w).mono ?_
  rintro e w1 ⟨rfl, rfl⟩
  go_wp2_with fail
  refine (decimal0 _).mono ?_
  rintro e w2 ⟨rfl, hu⟩
  have HU := hid hu
  clear hu
  go_wp2_with fail
  go_ret
  exact ⟨rfl, HU.out⟩
set_option maxHeartbeats 800000 in
set_option maxRecDepth 100000 in
theorem written200 (w : World) : Calls Tryz.prog 19 #[.int .i64 200, .string ⟨#[104, 105]⟩, .bool false, .bool false] w fun e w' => e = .returned (.string ⟨wr200.toArray⟩) ∧ Upd (fun _ => False) w w' := by
  go_enter Tryz.func19, Tryz.ntmps19
  go_wp2_with fail
  refine (status200 w).mono ?_
  rintro e w1 ⟨rfl, rfl⟩
  go_wp2_with fail
  refine (decimal2 _).mono ?_
  rintro e w2 ⟨rfl, hu⟩
  have HU := hid hu
  clear hu
  go_wp2_with fail
  go_ret
  exact ⟨rfl, HU.out⟩

end Go.Proofs.YtkhlhokolfaieaaGreatDoor
