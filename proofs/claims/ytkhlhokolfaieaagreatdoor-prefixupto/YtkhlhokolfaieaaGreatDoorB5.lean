import Derived.Test.YtkhlhokolfaieaaGreatDoorB4
import Derived.Shelf.Abstract
/-
  A byte is handed to a piece's state.
-/
namespace Go.Proofs.YtkhlhokolfaieaaGreatDoor
open Go.RowKit

def RS.next (σ : RS) : RS :=
  match σ.tag with
  | 3 => σ.fresh 4
  | 4 => { σ with tag := 1 }
  | 5 => σ.fresh 6
  | 6 => σ.endField
  | 7 => σ.endHead
  | 8 => σ.endSigns
  | 9 => ({ σ with signs := [] } : RS).fresh 8
  | _ => { σ with tag := 0 }

/-- A byte behind the run. -/
def RS.ending (σ : RS) (b : UInt8) : RS :=
  if (endOf σ.tag)[σ.met]? = some b then
    if σ.met + 1 < (endOf σ.tag).size then { σ with ph := 1, met := σ.met + 1 } else σ.next
  else σ.failed 1

def RS.piece (σ : RS) (b : UInt8) : RS :=
  if σ.ph = 0 then
    if σ.kept < mostOf σ.tag σ.sz ∧ clsOf σ.tag b = true then { σ.push (fldOf σ.tag) b with kept := σ.kept + 1 }
    else if σ.kept < leastOf σ.tag σ.sz then σ.failed 1
    else σ.ending b
  else σ.ending b

/-- What holds of a reader at all times. -/
structure Good (σ : RS) : Prop where
  tag : σ.tag ≤ 10
  met : 3 ≤ σ.tag → σ.met < (endOf σ.tag).size
  ph : σ.ph ≤ 1
  kept : 3 ≤ σ.tag → σ.kept ≤ mostOf σ.tag σ.sz
  least : 3 ≤ σ.tag → σ.ph = 1 → leastOf σ.tag σ.sz ≤ σ.kept
  size : ∀ f, IsRow f → (σ.get f).length ≤ 200
  room : 3 ≤ σ.tag → mostOf σ.tag σ.sz ≤ 200
  name : ∀ c ∈ σ.name, isNameB c.toNat = true
  value : ∀ c ∈ σ.value, isValB c.toNat = true
  signs : ∀ c ∈ σ.signs, isSignB c.toNat = true
  four : σ.signs.length ≤ 4
  got : σ.tag = 8 → σ.signs.length = σ.kept
  len : σ.length ≤ 1000000000

theorem ent105 : Ent 105 := enters_of Tryz.func105 (by kernel_rfl) rfl
theorem ent109 : Ent 109 := enters_of Tryz.func109 (by kernel_rfl) rfl
theorem ent111 : Ent 111 := enters_of Tryz.func111 (by kernel_rfl) rfl
theorem ent122 : Ent 122 := enters_of Tryz.func122 (by kernel_rfl) rfl
theorem ent124 : Ent 124 := enters_of Tryz.func124 (by kernel_rfl) rfl
theorem ent133 : Ent 133 := enters_of Tryz.func133 (by kernel_rfl) rfl
theorem ent106 : Ent 106 := enters_of Tryz.func106 (by kernel_rfl) rfl
theorem ent110 : Ent 110 := enters_of Tryz.func110 (by kernel_rfl) rfl
theorem ent119 : Ent 119 := enters_of Tryz.func119 (by kernel_rfl) rfl
theorem ent123 : Ent 123 := enters_of Tryz.func123 (by kernel_rfl) rfl
theorem ent114 : Ent 114 := enters_of Tryz.func114 (by kernel_rfl) rfl
theorem ent125 : Ent 125 := enters_of Tryz.func125 (by kernel_rfl) rfl
theorem ent120 : Ent 120 := enters_of Tryz.func120 (by kernel_rfl) rfl
theorem ent132 : Ent 132 := enters_of Tryz.func132 (by kernel_rfl) rfl

theorem tags {t : Nat} (h3 : 3 ≤ t) (h10 : t ≤ 10) : t = 3 ∨ t = 4 ∨ t = 5 ∨ t = 6 ∨ t = 7 ∨ t = 8 ∨ t = 9 ∨ t = 10 := by omega

theorem ent_has (t : Nat) (h3 : 3 ≤ t) (h10 : t ≤ 10) : Ent (hasFn t) := by
  rcases tags h3 h10 with rfl | rfl | rfl | rfl | rfl | rfl | rfl | rfl
  · exact ent105
  · exact ent109
  · exact ent111
  · exact ent122
  · exact ent133
  · exact ent124
  · exact ent133
  · exact ent133
theorem ent_next (t : Nat) (h3 : 3 ≤ t) (h10 : t ≤ 10) : Ent (nextFn t) := by
  rcases tags h3 h10 with rfl | rfl | rfl | rfl | rfl | rfl | rfl | rfl
  · exact ent106
  · exact ent110
  · exact ent119
  · exact ent123
  · exact ent114
  · exact ent125
  · exact ent120
  · exact ent132

theorem cls_calls (t : Nat) (h3 : 3 ≤ t) (h10 : t ≤ 10) (h7 : t ≠ 7) (h10' : t ≠ 10) (b : UInt8) (W : World) : Calls Tryz.prog (hasFn t) #[.int .u8 b.toNat] W fun e w' => e = .returned (.bool (clsOf t b)) ∧ w' = W := by
  rcases tags h3 h10 with rfl | rfl | rfl | rfl | rfl | rfl | rfl | rfl
  · exact isCapital_any _ _
  · exact isPathByte_any _ _
  · exact isNameByte_any _ _
  · exact isValueByte_any _ _
  · exact absurd rfl h7
  · exact isSign_any _ _
  · exact isAny_any _ _
  · exact absurd rfl h10'

theorem name_ascii {l : List UInt8} (h : ∀ c ∈ l, isNameB c.toNat = true) : Ascii l := ascii_mem.2 fun c hc => by
  have := h c hc; simp [isNameB, isCapB, isSmallB, isDigB] at this; omega
theorem value_ascii {l : List UInt8} (h : ∀ c ∈ l, isValB c.toNat = true) : Ascii l := ascii_mem.2 fun c hc => by
  have := h c hc; simp [isValB] at this; omega

/-- The next state is made. -/
theorem next_makes (hP : Hid ParseHex) {F : Nat → Prop} {w : World} {r : Nat} {σ : RS} {nv : Value} {R : Nat → Value} (h : RdrB F w r σ nv R) (h3 : 3 ≤ σ.tag) (g : Good σ) (hl : leastOf σ.tag σ.sz ≤ σ.kept) : Makes (nextFn σ.tag) (nextArgs r σ.tag) F w r σ.next nv := by
  unfold RS.next
  have hg : ∀ f, IsRow f → (σ.get f).length ≤ 200 := g.size
  rcases tags h3 g.tag with e | e | e | e | e | e | e | e <;> rw [e]
  · exact readPath_makes h
  · exact readFields_makes h
  · exact readValue_makes h
  · exact endField_makes h (Nat.le_trans (hg 6 (by simp [IsRow])) (by omega)) (Nat.le_trans (hg 7 (by simp [IsRow])) (by omega)) (name_ascii g.name) (value_ascii g.value)
  · exact endHead_makes h g.len
  · refine endSigns_makes hP h ?_ g.four g.signs (Nat.le_trans (hg 12 (by simp [IsRow])) (by omega))
    rw [g.got e]; rw [e] at hl; exact hl
  · exact readChunk_makes h
  · exact over_makes h

end Go.Proofs.YtkhlhokolfaieaaGreatDoor
