import Derived.Test.YtohoddhegkjehaaGreatDoorA9
/-
  endHead, endSigns.
-/
namespace Go.Proofs.YtohoddhegkjehaaGreatDoor
open Go.RowKit

theorem Made.from {F : Nat → Prop} {w w1 w2 : World} {r : Nat} {σ : RS} {nv sv : Value} (h : Made F w1 w2 r σ nv sv) (hu : Upd F w w1) : Made F w w2 r σ nv sv := by
  obtain ⟨F', h1, h2, h3⟩ := h
  refine ⟨F', h1, hu.trans h2, fun k hk => ?_⟩
  rcases h3 k hk with h4 | h4
  · exact Or.inl h4
  · right; have := hu.size; omega

theorem Made.then {F : Nat → Prop} {w w1 w2 : World} {r : Nat} {σ : RS} {nv sv : Value} (h : Made F w w1 r σ nv sv) (hu : Upd (fun _ => False) w1 w2) : Made F w w2 r σ nv sv := by
  obtain ⟨F', h1, h2, h3⟩ := h
  refine ⟨F', h1.keep hu (fun _ _ h => h), h2.trans (hu.mono (fun _ _ h => h.elim)), fun k hk => ?_⟩
  rcases h3 k hk with h4 | h4
  · exact Or.inl h4
  · right; have := hu.size; omega

def RS.endHead (σ : RS) : RS := ({ σ with headOver := true, name := [], value := [] } : RS).readBody

set_option maxHeartbeats 400000 in
theorem endHead_makes {F : Nat → Prop} {w : World} {r : Nat} {σ : RS} {nv : Value} {R : Nat → Value} (h : Hid (RdrB F w r σ nv R)) (hl : σ.length ≤ 1000000000) : Makes 117 #[.pointer (some ⟨r, 0, none⟩)] F w r σ.endHead nv := by
  have c2 : w.cell? ⟨r, 2, none⟩ = some (.bool σ.headOver) := h.out.cell 2
  have f2 : w.frozen? ⟨r, 2, none⟩ = false := h.out.unfrozen 2
  have c6 : w.cell? ⟨r, 6, none⟩ = some (R 6) := h.out.cell 6
  have f6 : w.frozen? ⟨r, 6, none⟩ = false := h.out.unfrozen 6
  have c7 : w.cell? ⟨r, 7, none⟩ = some (R 7) := h.out.cell 7
  have f7 : w.frozen? ⟨r, 7, none⟩ = false := h.out.unfrozen 7
  have hu : Upd (fun k => k = r) w (((w.setCell ⟨r, 2, none⟩ (.bool true)).setCell ⟨r, 6, none⟩ (.slice none 0 0)).setCell ⟨r, 7, none⟩ (.slice none 0 0)) := ((Upd.one _ _ _ _).trans (Upd.one _ _ _ _)).trans (Upd.one _ _ _ _)
  have HB : Hid (RdrB F (((w.setCell ⟨r, 2, none⟩ (.bool true)).setCell ⟨r, 6, none⟩ (.slice none 0 0)).setCell ⟨r, 7, none⟩ (.slice none 0 0)) r { σ with headOver := true, name := [], value := [] } nv (fun f => if f = 6 ∨ f = 7 then .slice none 0 0 else R f)) :=
    h.out.upd hu (by have := heap_setCell (heap_setCell (heap_setCell h.out.blk 2 (.bool true)) 6 (.slice none 0 0)) 7 (.slice none 0 0); simpa using this) (by rintro f (rfl | rfl | rfl | rfl | rfl | rfl) <;> first | exact .same _ _ | exact .none _ _)
  have HU : Hid (Upd F w (((w.setCell ⟨r, 2, none⟩ (.bool true)).setCell ⟨r, 6, none⟩ (.slice none 0 0)).setCell ⟨r, 7, none⟩ (.slice none 0 0))) := hu.mono (by rintro k _ rfl; exact h.out.fr)
  clear hu
  unfold Makes
  go_enter Tryz.func117, Tryz.ntmps117
  go_wp2_with fail
  refine Calls.mono (readBody_makes HB hl) ?_
  rintro e w' ⟨sv, rfl, hm⟩
  have HM : Hid (Made F w w' r σ.endHead nv sv) := hm.from HU.out
  clear hm
  go_wp2
  go_ret
  exact ⟨sv, rfl, HM.out⟩

/-- The number that signs tell. -/
def hexDig (c : UInt8) : Nat := if c.toNat ≤ 57 then c.toNat - 48 else if c.toNat ≤ 70 then c.toNat - 55 else c.toNat - 87
def hexVal (l : List UInt8) : Nat := l.foldl (fun n c => n * 16 + hexDig c) 0

def RS.endSigns (σ : RS) : RS :=
  if hexVal σ.signs = 0 then σ.fresh 10
  else if 100 < σ.body.length + hexVal σ.signs then σ.failed 2
  else ({ σ with sz := hexVal σ.signs } : RS).fresh 9

/-- What strconv.ParseInt says of signs, base 16. -/
def ParseHex : Prop := ∀ (s : ByteArray) (w : World), 1 ≤ s.size → s.size ≤ 4 → (∀ c ∈ s.data.toList, isSignB c.toNat = true) →
  Calls Tryz.prog 134 #[.string s, .int .i64 16, .int .i64 32] w fun e w' => e = .returned (.tuple #[.int .i64 (hexVal s.data.toList), .nilIface]) ∧ Upd (fun _ => False) w w'

end Go.Proofs.YtohoddhegkjehaaGreatDoor
