import Derived.Test.YtohoddhegkjehaaGreatDoorRows
import Derived.WalkKit
import Derived.WalkSpells
import Derived.WalkLawsBesides
import Derived.Laws.EntriesVeiled
import Derived.WideLaws
/-
  The classes of bytes (package request, class.go): each predicate computes and leaves the world as it was.
-/
namespace Go.Proofs.YtohoddhegkjehaaGreatDoor
open Go.RowKit

def isCapB (b : Int) : Bool := decide (65 ≤ b) && decide (b ≤ 90)
def isSmallB (b : Int) : Bool := decide (97 ≤ b) && decide (b ≤ 122)
def isDigB (b : Int) : Bool := decide (48 ≤ b) && decide (b ≤ 57)
def isNameB (b : Int) : Bool := isCapB b || isSmallB b || isDigB b || decide (b = 45)
def isPathB (b : Int) : Bool := isNameB b || decide (b = 47) || decide (b = 95) || decide (b = 46)
def isValB (b : Int) : Bool := decide (32 ≤ b) && decide (b ≤ 126) || decide (b = 9)
def isSignB (b : Int) : Bool := isDigB b || decide (65 ≤ b) && decide (b ≤ 70) || decide (97 ≤ b) && decide (b ≤ 102)

theorem ret_bool {a b : Bool} (h : a = b) : Ending.returned (.bool a) = .returned (.bool b) := by rw [h]

set_option maxHeartbeats 400000 in
theorem isCapital_any (b : Int) (w : World) :
    Calls Tryz.prog 108 #[.int .u8 b] w fun e w' => e = .returned (.bool (isCapB b)) ∧ w' = w := by
  go_enter Tryz.func108, Tryz.ntmps108
  go_wp2
  all_goals
    go_ret
    exact ⟨ret_bool (by simp [isCapB]; try omega), rfl⟩


set_option maxHeartbeats 400000 in
theorem isSmall_any (b : Int) (w : World) :
    Calls Tryz.prog 119 #[.int .u8 b] w fun e w' => e = .returned (.bool (isSmallB b)) ∧ w' = w := by
  go_enter Tryz.func119, Tryz.ntmps119
  go_wp2
  all_goals
    go_ret
    exact ⟨ret_bool (by simp [isSmallB]; try omega), rfl⟩

set_option maxHeartbeats 400000 in
theorem isDigit_any (b : Int) (w : World) :
    Calls Tryz.prog 120 #[.int .u8 b] w fun e w' => e = .returned (.bool (isDigB b)) ∧ w' = w := by
  go_enter Tryz.func120, Tryz.ntmps120
  go_wp2
  all_goals
    go_ret
    exact ⟨ret_bool (by simp [isDigB]; try omega), rfl⟩

set_option maxHeartbeats 400000 in
theorem isValueByte_any (b : Int) (w : World) :
    Calls Tryz.prog 125 #[.int .u8 b] w fun e w' => e = .returned (.bool (isValB b)) ∧ w' = w := by
  go_enter Tryz.func125, Tryz.ntmps125
  go_wp2
  all_goals
    go_ret
    exact ⟨ret_bool (by rw [Bool.eq_iff_iff]; simp [isValB] <;> omega), rfl⟩

set_option maxHeartbeats 400000 in
theorem isAny_any (b : Int) (w : World) :
    Calls Tryz.prog 136 #[.int .u8 b] w fun e w' => e = .returned (.bool true) ∧ w' = w := by
  go_enter Tryz.func136, Tryz.ntmps136
  go_wp2
  go_ret
  exact ⟨rfl, rfl⟩

set_option maxHeartbeats 400000 in
theorem isNameByte_any (b : Int) (w : World) :
    Calls Tryz.prog 114 #[.int .u8 b] w fun e w' => e = .returned (.bool (isNameB b)) ∧ w' = w := by
  unfold isNameB
  cases h1 : isCapB b <;> cases h2 : isSmallB b <;> cases h3 : isDigB b
  all_goals
    go_enter Tryz.func114, Tryz.ntmps114
    go_wp2_with (first
      | (go_at_call 108; refine (isCapital_any _ _).mono ?_; rintro e w' ⟨rfl, rfl⟩)
      | (go_at_call 119; refine (isSmall_any _ _).mono ?_; rintro e w' ⟨rfl, rfl⟩)
      | (go_at_call 120; refine (isDigit_any _ _).mono ?_; rintro e w' ⟨rfl, rfl⟩))
    all_goals
      go_ret
      exact ⟨ret_bool (by rw [Bool.eq_iff_iff]; simp), rfl⟩

set_option maxHeartbeats 400000 in
theorem isPathByte_any (b : Int) (w : World) :
    Calls Tryz.prog 112 #[.int .u8 b] w fun e w' => e = .returned (.bool (isPathB b)) ∧ w' = w := by
  unfold isPathB
  cases h1 : isNameB b
  all_goals
    go_enter Tryz.func112, Tryz.ntmps112
    go_wp2_with (first
      | (go_at_call 114; refine (isNameByte_any _ _).mono ?_; rintro e w' ⟨rfl, rfl⟩))
    all_goals
      go_ret
      exact ⟨ret_bool (by first | rfl | (rw [Bool.eq_iff_iff]; simp <;> omega)), rfl⟩

set_option maxHeartbeats 400000 in
theorem isSign_any (b : Int) (w : World) :
    Calls Tryz.prog 127 #[.int .u8 b] w fun e w' => e = .returned (.bool (isSignB b)) ∧ w' = w := by
  unfold isSignB
  cases h1 : isDigB b
  all_goals
    go_enter Tryz.func127, Tryz.ntmps127
    go_wp2_with (first
      | (go_at_call 120; refine (isDigit_any _ _).mono ?_; rintro e w' ⟨rfl, rfl⟩))
    all_goals
      go_ret
      exact ⟨ret_bool (by first | rfl | (rw [Bool.eq_iff_iff]; simp <;> omega)), rfl⟩

end Go.Proofs.YtohoddhegkjehaaGreatDoor
