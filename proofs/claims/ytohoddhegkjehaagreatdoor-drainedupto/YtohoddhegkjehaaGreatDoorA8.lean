import Derived.Test.YtohoddhegkjehaaGreatDoorA7
import Derived.Test.YtohoddhegkjehaaGreatDoorShelf
/-
  body.go and the head's end: sizeOfCoding, readBody, readCounted, endHead.
-/
namespace Go.Proofs.YtohoddhegkjehaaGreatDoor
open Go.RowKit

def Ascii (l : List UInt8) : Prop := ∀ (j : Nat) (b : UInt8), l[j]? = some b → b.toNat < 128
def chunkedL : List UInt8 := [99, 104, 117, 110, 107, 101, 100]
/-- What a Transfer-Encoding says. -/
def codingSays (l : List UInt8) : Nat × Nat := if Lib.equalFold l chunkedL then (2, 0) else (3, 0)

theorem ascii_chunked : Ascii chunkedL := by
  intro j b h
  have := List.all_eq_true.1 (show chunkedL.all (fun b => decide (b.toNat < 128)) = true by decide) b (List.mem_of_getElem? h)
  simpa using this

set_option maxHeartbeats 400000 in
theorem sizeOfCoding_any (s : ByteArray) (w : World) (hs : s.size ≤ 1000000) (ha : Hid (Ascii s.data.toList)) :
    Calls Tryz.prog 133 #[.string s] w fun e w' => e = .returned (.agg #[.int .i64 (codingSays s.data.toList).1, .int .i64 (codingSays s.data.toList).2]) ∧ Below w.heap.size w w' := by
  have hE := Tryz.strings_EqualFold s ⟨#[99, 104, 117, 110, 107, 101, 100]⟩ (w.alloc (.cells #[.int .i64 0, .int .i64 0] 155)) (by omega) ha.out ascii_chunked
  have HE : Hid (Calls Tryz.prog 130 #[.string s, .string ⟨#[99, 104, 117, 110, 107, 101, 100]⟩] (w.alloc (.cells #[.int .i64 0, .int .i64 0] 155)) fun e w' => e = .returned (.bool (Lib.equalFold s.data.toList chunkedL)) ∧ w' = w.alloc (.cells #[.int .i64 0, .int .i64 0] 155)) := hE
  clear hE
  cases hb : Lib.equalFold s.data.toList chunkedL
  · have HS : Hid (codingSays s.data.toList = (3, 0)) := by show _ = _; simp only [codingSays, hb]; rfl
    rw [hb] at HE
    clear hb
    go_enter Tryz.func133, Tryz.ntmps133
    go_wp2_with fail
    refine HE.out.mono ?_
    rintro e w' ⟨rfl, hw⟩
    rw [hw]; clear hw w'
    go_wp2
    rw [HS.out]
    exact bodyPost_ret (v := .agg #[.int .i64 3, .int .i64 0]) (by simp [results, Tryz.results133, go_sem]) rfl ⟨rfl, (Below.refl _ _).alloc (Nat.le_refl _) _⟩
  · have HS : Hid (codingSays s.data.toList = (2, 0)) := by show _ = _; simp only [codingSays, hb]; rfl
    rw [hb] at HE
    clear hb
    go_enter Tryz.func133, Tryz.ntmps133
    go_wp2_with fail
    refine HE.out.mono ?_
    rintro e w' ⟨rfl, hw⟩
    rw [hw]; clear hw w'
    go_wp2
    rw [HS.out]
    exact bodyPost_ret (v := .agg #[.int .i64 2, .int .i64 0]) (by simp [results, Tryz.results133, go_sem]) rfl ⟨rfl, (Below.refl _ _).alloc (Nat.le_refl _) _⟩

theorem fail1_makes {F : Nat → Prop} {w : World} {r : Nat} {σ : RS} {nv : Value} {R : Nat → Value} (h : RdrB F w r σ nv R) : Makes 110 #[.pointer (some ⟨r, 0, none⟩), .int .i64 1] F w r (σ.failed 1) nv := fail_makes h 1
theorem fail2_makes {F : Nat → Prop} {w : World} {r : Nat} {σ : RS} {nv : Value} {R : Nat → Value} (h : RdrB F w r σ nv R) : Makes 110 #[.pointer (some ⟨r, 0, none⟩), .int .i64 2] F w r (σ.failed 2) nv := fail_makes h 2
theorem fail3_makes {F : Nat → Prop} {w : World} {r : Nat} {σ : RS} {nv : Value} {R : Nat → Value} (h : RdrB F w r σ nv R) : Makes 110 #[.pointer (some ⟨r, 0, none⟩), .int .i64 3] F w r (σ.failed 3) nv := fail_makes h 3

def RS.readBody (σ : RS) : RS :=
  if σ.kind = 3 then σ.failed 1
  else if σ.kind = 2 then ({ σ with signs := [] } : RS).fresh 8
  else if 100 < σ.length then σ.failed 2
  else if 0 < σ.length then { σ with tag := 2 }
  else { σ with tag := 0 }

theorem made_tag {F : Nat → Prop} {w : World} {r : Nat} {σ : RS} {nv sv : Value} {R : Nat → Value} (h : RdrB F w r σ nv R) (t : Nat) (hc : CloS F w r { σ with tag := t } sv) : Made F w w r { σ with tag := t } nv sv :=
  ⟨F, ⟨⟨R, { h with }⟩, hc⟩, Upd.refl _ _, fun _ hk => Or.inl hk⟩

set_option maxHeartbeats 400000 in
theorem readBody_makes {F : Nat → Prop} {w : World} {r : Nat} {σ : RS} {nv : Value} {R : Nat → Value} (h : Hid (RdrB F w r σ nv R)) (hl : σ.length ≤ 1000000000) : Makes 121 #[.pointer (some ⟨r, 0, none⟩)] F w r σ.readBody nv := by
  have hmf : ∀ (fn : Fn) (first cap : Array Value) (w : World), (Instr.makeFunc fn first cap).run Tryz.prog w = .ok (.func fn first cap) w := fun _ _ _ _ => rfl
  have c9 : w.cell? ⟨r, 9, none⟩ = some (.int .i64 σ.kind) := h.out.cell 9
  have c10 : w.cell? ⟨r, 10, none⟩ = some (.int .i64 σ.length) := h.out.cell 10
  unfold Makes
  by_cases h3 : σ.kind = 3
  · have HS : Hid (σ.readBody = σ.failed 1) := by show _ = _; simp only [RS.readBody, h3]; rfl
    have e3 : ((σ.kind : Int) == 3) = true := by simp [h3]
    rw [HS.out]
    clear h3
    go_enter Tryz.func121, Tryz.ntmps121
    go_wp2_with fail
    refine Calls.mono (fail1_makes h.out) ?_
    rintro e w' ⟨sv, rfl, hm⟩
    have HM : Hid _ := hm
    clear hm
    go_wp2
    go_ret
    exact ⟨sv, rfl, HM.out⟩
  have e3 : ((σ.kind : Int) == 3) = false := by rw [beq_eq_false_iff_ne]; omega
  by_cases h2 : σ.kind = 2
  · have HS : Hid (σ.readBody = ({ σ with signs := [] } : RS).fresh 8) := by show _ = _; simp only [RS.readBody, h2]; rfl
    have e2 : ((σ.kind : Int) == 2) = true := by simp [h2]
    rw [HS.out]
    clear h3 h2
    go_enter Tryz.func121, Tryz.ntmps121
    go_wp2_with fail
    refine Calls.mono (readChunk_makes h.out) ?_
    rintro e w' ⟨sv, rfl, hm⟩
    have HM : Hid _ := hm
    clear hm
    go_wp2
    go_ret
    exact ⟨sv, rfl, HM.out⟩
  have e2 : ((σ.kind : Int) == 2) = false := by rw [beq_eq_false_iff_ne]; omega
  by_cases h1 : 100 < σ.length
  · have HS : Hid (σ.readBody = σ.failed 2) := by show _ = _; unfold RS.readBody; rw [if_neg h3, if_neg h2, if_pos h1]
    rw [HS.out]
    clear h3 h2
    go_enter Tryz.func121, Tryz.ntmps121
    go_wp2_with fail
    refine Calls.mono (fail2_makes h.out) ?_
    rintro e w' ⟨sv, rfl, hm⟩
    have HM : Hid _ := hm
    clear hm
    go_wp2
    go_ret
    exact ⟨sv, rfl, HM.out⟩
  by_cases h0 : 0 < σ.length
  · have HS : Hid (σ.readBody = { σ with tag := 2 }) := by show _ = _; unfold RS.readBody; rw [if_neg h3, if_neg h2, if_neg h1, if_pos h0]
    rw [HS.out]
    clear h3 h2
    go_enter Tryz.func121, Tryz.ntmps121
    go_wp2
    go_ret
    exact ⟨_, rfl, made_tag h.out 2 rfl⟩
  · have HS : Hid (σ.readBody = { σ with tag := 0 }) := by show _ = _; unfold RS.readBody; rw [if_neg h3, if_neg h2, if_neg h1, if_neg h0]
    rw [HS.out]
    clear h3 h2
    go_enter Tryz.func121, Tryz.ntmps121
    go_wp2
    go_ret
    exact ⟨_, rfl, made_tag h.out 0 rfl⟩

end Go.Proofs.YtohoddhegkjehaaGreatDoor
