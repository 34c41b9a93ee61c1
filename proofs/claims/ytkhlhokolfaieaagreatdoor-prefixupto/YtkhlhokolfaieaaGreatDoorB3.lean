import Derived.Test.YtkhlhokolfaieaaGreatDoorB2
import Derived.Shelf.Strings.SlTrimAscii
import Derived.Deep.RegionWith
/-
  endField.
-/
namespace Go.Proofs.YtkhlhokolfaieaaGreatDoor
open Go.RowKit

def trimL (l : List UInt8) : List UInt8 := Lib.trimS l [32, 9]
def clName : List UInt8 := [67, 111, 110, 116, 101, 110, 116, 45, 76, 101, 110, 103, 116, 104]
def teName : List UInt8 := [84, 114, 97, 110, 115, 102, 101, 114, 45, 69, 110, 99, 111, 100, 105, 110, 103]
def cnName : List UInt8 := [67, 111, 110, 110, 101, 99, 116, 105, 111, 110]
def closeL : List UInt8 := [99, 108, 111, 115, 101]

theorem ascii_all {l : List UInt8} (h : l.all (fun b => decide (b.toNat < 128)) = true) : Ascii l := fun _ b hb => of_decide_eq_true (List.all_eq_true.1 h b (List.mem_of_getElem? hb))

theorem trim_any (s : List UInt8) (w : World) (hs : s.length ≤ 1000000) :
    Calls Tryz.prog 126 #[.string ⟨s.toArray⟩, .string ⟨#[32, 9]⟩] w fun e w' => e = .returned (.string ⟨(trimL s).toArray⟩) ∧ Upd (fun _ => False) w w' := by
  have h := Any.strings_Trim_laid Tryz.lays160 (by kernel_rfl) ⟨s.toArray⟩ ⟨#[32, 9]⟩ w (by rw [← size_list]; simp; omega) (by decide) (ascii_all (by decide))
  refine Calls.mono h ?_
  rintro e w' ⟨rfl, hb⟩
  exact ⟨rfl, Upd.of_below hb⟩

theorem fold_any (s t : List UInt8) (ts : Array UInt8) (ht : ts = t.toArray) (w : World) (hs : s.length ≤ 1000000) (ha : Ascii s) (hb : Ascii t) :
    Calls Tryz.prog 127 #[.string ⟨s.toArray⟩, .string ⟨ts⟩] w fun e w' => e = .returned (.bool (Lib.equalFold s t)) ∧ w' = w := by
  subst ht
  exact Tryz.strings_EqualFold ⟨s.toArray⟩ ⟨t.toArray⟩ w (by rw [← size_list]; simp; omega) ha hb

end Go.Proofs.YtkhlhokolfaieaaGreatDoor
