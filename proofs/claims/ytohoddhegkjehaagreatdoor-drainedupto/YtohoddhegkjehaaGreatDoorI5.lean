import Derived.Test.YtohoddhegkjehaaGreatDoorB2
import Derived.Test.YtohoddhegkjehaaGreatDoorF2
/-
  What an answer looks like, by the verifier's own package: the two answers that 'alive' asks for.
-/
namespace Go.Proofs.YtohoddhegkjehaaGreatDoor
open Go.RowKit

/-- 'string([]byte{d})'. -/
theorem byte_string (w : World) (d : UInt8) : (convert 56 9 (.slice (some ⟨w.heap.size, 0, none⟩) 1 1)).run Tryz.prog (w.alloc (.cells #[.int .u8 d.toNat] 5)) = .ok (.string ⟨#[d]⟩) (w.alloc (.cells #[.int .u8 d.toNat] 5)) := by
  refine row_string (bs := [d]) ⟨by simp, Or.inr ⟨w.heap.size, 1, #[.int .u8 d.toNat], rfl, Nat.zero_le _, heap_alloc_new w _, Nat.le_refl _, by decide, rfl, rfl⟩⟩

set_option maxHeartbeats 800000 in
set_option maxRecDepth 100000 in
theorem decimal0 (w : World) : Calls Tryz.prog 38 #[.int .i64 0] w fun e w' => e = .returned (.string ⟨#[48]⟩) ∧ Upd (fun _ => False) w w' := by
  have hb := byte_string w 48
  have e48 : ((48 : UInt8).toNat : Int) = 48 := rfl
  rw [e48] at hb
  go_enter Tryz.func38, Tryz.ntmps38
  go_wp2
  go_ret
  exact ⟨rfl, (Upd.refl _ w).alloc _⟩
set_option maxHeartbeats 800000 in
set_option maxRecDepth 100000 in
theorem decimal2 (w : World) : Calls Tryz.prog 38 #[.int .i64 2] w fun e w' => e = .returned (.string ⟨#[50]⟩) ∧ Upd (fun _ => False) w w' := by
  have hb := byte_string w 50
  have e48 : ((50 : UInt8).toNat : Int) = 50 := rfl
  rw [e48] at hb
  go_enter Tryz.func38, Tryz.ntmps38
  go_wp2
  go_ret
  exact ⟨rfl, (Upd.refl _ w).alloc _⟩

set_option maxHeartbeats 800000 in
set_option maxRecDepth 100000 in
theorem status201 (w : World) : Calls Tryz.prog 37 #[.int .i64 201] w fun e w' => e = .returned (.string ⟨#[50, 48, 49, 32, 67, 114, 101, 97, 116, 101, 100]⟩) ∧ w' = w := by
  go_enter Tryz.func37, Tryz.ntmps37
  go_wp2
  go_ret
  exact ⟨rfl, rfl⟩
set_option maxHeartbeats 800000 in
set_option maxRecDepth 100000 in
theorem status200 (w : World) : Calls Tryz.prog 37 #[.int .i64 200] w fun e w' => e = .returned (.string ⟨#[50, 48, 48, 32, 79, 75]⟩) ∧ w' = w := by
  go_enter Tryz.func37, Tryz.ntmps37
  go_wp2
  go_ret
  exact ⟨rfl, rfl⟩

/-- The two answers. -/
def wr201 : List UInt8 := [72, 84, 84, 80, 47, 49, 46, 49, 32, 50, 48, 49, 32, 67, 114, 101, 97, 116, 101, 100, 13, 10, 67, 111, 110, 116, 101, 110, 116, 45, 76, 101, 110, 103, 116, 104, 58, 32, 48, 13, 10, 13, 10]
def wr200 : List UInt8 := [72, 84, 84, 80, 47, 49, 46, 49, 32, 50, 48, 48, 32, 79, 75, 13, 10, 67, 111, 110, 116, 101, 110, 116, 45, 76, 101, 110, 103, 116, 104, 58, 32, 50, 13, 10, 13, 10, 104, 105]

set_option maxHeartbeats 800000 in
set_option maxRecDepth 100000 in
theorem written201 (w : World) : Calls Tryz.prog 19 #[.int .i64 201, .string ⟨#[]⟩, .bool false, .bool false] w fun e w' => e = .returned (.string ⟨wr201.toArray⟩) ∧ Upd (fun _ => False) w w' := by
  go_enter Tryz.func19, Tryz.ntmps19
  go_wp2_with fail
  refine (status201 w).mono ?_
  rintro e w1 ⟨rfl, rfl⟩
  go_wp2_with fail
  refine (decimal0 _).mono ?_
  rintro e w2 ⟨rfl, hu⟩
  have HU := hid hu
  clear hu
  go_wp2_with fail
  go_ret
  exact ⟨rfl, HU.out⟩
set_option maxHeartbeats 800000 in
set_option maxRecDepth 100000 in
theorem written200 (w : World) : Calls Tryz.prog 19 #[.int .i64 200, .string ⟨#[104, 105]⟩, .bool false, .bool false] w fun e w' => e = .returned (.string ⟨wr200.toArray⟩) ∧ Upd (fun _ => False) w w' := by
  go_enter Tryz.func19, Tryz.ntmps19
  go_wp2_with fail
  refine (status200 w).mono ?_
  rintro e w1 ⟨rfl, rfl⟩
  go_wp2_with fail
  refine (decimal2 _).mono ?_
  rintro e w2 ⟨rfl, hu⟩
  have HU := hid hu
  clear hu
  go_wp2_with fail
  go_ret
  exact ⟨rfl, HU.out⟩

end Go.Proofs.YtohoddhegkjehaaGreatDoor

/-
  alive.
-/
namespace Go.Proofs.YtohoddhegkjehaaGreatDoor
open Go.RowKit Go.MapKept

def putL1 : List UInt8 := [80, 85, 84, 32, 47, 97, 32, 72, 84, 84, 80, 47, 49, 46, 49, 13, 10, 67, 111, 110, 116, 101, 110, 116, 45, 76, 101, 110, 103, 116, 104, 58, 32, 50, 13, 10, 13, 10, 104, 105]
def getL1 : List UInt8 := [71, 69, 84, 32, 47, 97, 32, 72, 84, 84, 80, 47, 49, 46, 49, 13, 10, 13, 10]
def csNew : Cs := ⟨cxNew, [], 0⟩
def csPut : Cs := csNew.got false putL1
def csTook : Cs := csPut.take false 1000
def csGet : Cs := csTook.got false getL1

set_option maxRecDepth 100000 in
theorem gets1 : csNew.gets false putL1 = 40 := by kernel_rfl
set_option maxRecDepth 100000 in
theorem out1 : csPut.cx.out = wr201 := by kernel_rfl
set_option maxRecDepth 100000 in
theorem kind1 : csTook.cx.kind = 0 := by kernel_rfl
set_option maxRecDepth 100000 in
theorem gets2 : csTook.gets false getL1 = 19 := by kernel_rfl
set_option maxRecDepth 100000 in
theorem out2 : csGet.cx.out = wr200 := by kernel_rfl

section
variable {N : Nat} {F : Nat → Prop} {w wr : World} {S : Nat} {p : Ps} {x : Xs} {c : Nat}

theorem aget_joined (c : Nat) : aget (xNew.joined c).K 0 = some (c, cxNew) := rfl
theorem nd_joined (c : Nat) : ((xNew.joined c).K.map (·.1)).Nodup := by show ([0] : List Int).Nodup; simp

theorem alive_put (h : SvX N F w wr S p (xNew.joined c)) :
    Calls Tryz.prog 14 #[.pointer (some ⟨S, 0, none⟩), .int .i64 0, .string ⟨#[80, 85, 84, 32, 47, 97, 32, 72, 84, 84, 80, 47, 49, 46, 49, 13, 10, 67, 111, 110, 116, 101, 110, 116, 45, 76, 101, 110, 103, 116, 104, 58, 32, 50, 13, 10, 13, 10, 104, 105]⟩] wr fun e w' => e = .returned (.int .i64 40) ∧ SvX N F w w' S p ((xNew.joined c).after 0 csPut) := by
  refine h.call (fun F' Fs' hv => ?_)
  refine (data_any (hid hv) (hid (aget_joined c)) ⟨putL1.toArray⟩ (by decide)).mono ?_
  rintro e w' ⟨rfl, hs⟩
  refine ⟨_, hs, fun hs' => ⟨?_, hs'⟩⟩
  have : Cs.gets (xNew.joined c).dr ⟨cxNew, (xNew.joined c).L, (xNew.joined c).u⟩ putL1 = 40 := gets1
  exact congrArg (fun n : Nat => Ending.returned (.int .i64 (n : Int))) this
theorem alive_take1 (h : SvX N F w wr S p ((xNew.joined c).after 0 csPut)) :
    Calls Tryz.prog 16 #[.pointer (some ⟨S, 0, none⟩), .int .i64 0, .int .i64 1000] wr fun e w' => e = .returned (.string ⟨wr201.toArray⟩) ∧ SvX N F w w' S p ((xNew.joined c).after 0 csTook) := by
  refine h.call (fun F' Fs' hv => ?_)
  refine (Take_open (hid hv) (hid (aget_after (aget_joined c) csPut)) 1000 (by decide)).mono ?_
  rintro e w' ⟨rfl, hs⟩
  rw [after_taken] at hs
  have e1 : Cs.take ((xNew.joined c).after 0 csPut).dr ⟨csPut.cx, ((xNew.joined c).after 0 csPut).L, ((xNew.joined c).after 0 csPut).u⟩ 1000 = csTook := rfl
  rw [e1, taken_open _ _ _ (by rw [kind1]; decide)] at hs
  refine ⟨_, hs, fun hs' => ⟨?_, hs'⟩⟩
  rw [out1]; rfl
theorem alive_get (h : SvX N F w wr S p ((xNew.joined c).after 0 csTook)) :
    Calls Tryz.prog 14 #[.pointer (some ⟨S, 0, none⟩), .int .i64 0, .string ⟨#[71, 69, 84, 32, 47, 97, 32, 72, 84, 84, 80, 47, 49, 46, 49, 13, 10, 13, 10]⟩] wr fun e w' => e = .returned (.int .i64 19) ∧ SvX N F w w' S p ((xNew.joined c).after 0 csGet) := by
  refine h.call (fun F' Fs' hv => ?_)
  refine (data_any (hid hv) (hid (aget_after (aget_joined c) csTook)) ⟨getL1.toArray⟩ (by decide)).mono ?_
  rintro e w' ⟨rfl, hs⟩
  rw [after_after] at hs
  refine ⟨_, hs, fun hs' => ⟨?_, hs'⟩⟩
  have : Cs.gets ((xNew.joined c).after 0 csTook).dr ⟨csTook.cx, ((xNew.joined c).after 0 csTook).L, ((xNew.joined c).after 0 csTook).u⟩ getL1 = 19 := gets2
  exact congrArg (fun n : Nat => Ending.returned (.int .i64 (n : Int))) this
theorem alive_take2 (h : SvX N F w wr S p ((xNew.joined c).after 0 csGet)) :
    Calls Tryz.prog 16 #[.pointer (some ⟨S, 0, none⟩), .int .i64 0, .int .i64 1000] wr fun e w' => e = .returned (.string ⟨wr200.toArray⟩) ∧ Upd F w w' := by
  refine h.call (fun F' Fs' hv => ?_)
  refine (Take_open (hid hv) (hid (aget_after (aget_joined c) csGet)) 1000 (by decide)).mono ?_
  rintro e w' ⟨rfl, hs⟩
  refine ⟨_, hs, fun hs' => ⟨?_, ?_⟩⟩
  · rw [out2]; rfl
  · obtain ⟨F1, Fs1, h1, h2, h3⟩ := hs'
    exact h2
end

set_option maxHeartbeats 1600000 in
set_option maxRecDepth 100000 in
theorem alive_any (N : Nat) (w : World) (hT : Hid (Tb N w)) (hN : N ≤ w.heap.size) :
    Calls Tryz.prog 7 #[] w fun e w' => e = .returned (.bool true) ∧ Below w.heap.size w w' := by
  go_enter Tryz.func7, Tryz.ntmps7
  go_wp2_with fail
  refine (new_any N w hT hN).mono ?_
  rintro e w1 ⟨S, p, rfl, hf1, hu1⟩
  have HF1 := hid hf1
  have HU1 := hid hu1
  clear hf1 hu1
  go_wp2_with fail
  refine (connect_any HF1 rfl (by decide) (by decide)).mono ?_
  rintro e w2 ⟨rfl, hs2⟩
  have HA := hid hs2
  have hz : ((xNew.made : Nat) : Int) = 0 := rfl
  rw [hz]
  generalize w1.heap.size = c at HA
  clear hs2 HF1 hz
  go_wp2_with fail
  refine (alive_put HA.out).mono ?_
  rintro e w3 ⟨rfl, ha⟩
  have HA3 := hid ha
  clear ha HA
  go_wp2_with fail
  refine (alive_take1 HA3.out).mono ?_
  rintro e w4 ⟨rfl, ha⟩
  have HA4 := hid ha
  clear ha HA3
  go_wp2_with fail
  refine (alive_get HA4.out).mono ?_
  rintro e w5 ⟨rfl, ha⟩
  have HA5 := hid ha
  clear ha HA4
  go_wp2_with fail
  refine (alive_take2 HA5.out).mono ?_
  rintro e w6 ⟨rfl, ha⟩
  have HB : Hid (Below w.heap.size w w6) := (HU1.out.below (Nat.le_refl _) (fun _ _ h => h)).trans (ha.below HU1.out.size (fun k hk e => by have := e.1; omega))
  clear ha HA5
  have q1 : (wr201 == wr201) = true := by decide
  have q2 : (wr200 == wr200) = true := by decide
  go_wp2_with fail
  refine (written201 _).mono ?_
  rintro e w7 ⟨rfl, hu7⟩
  have HB7 := hid (HB.out.trans (hu7.below HB.out.size (fun _ _ h => h)))
  clear hu7
  go_wp2_with fail
  refine (written200 _).mono ?_
  rintro e w8 ⟨rfl, hu8⟩
  have HB8 := hid (HB7.out.trans (hu8.below HB7.out.size (fun _ _ h => h)))
  clear hu8
  go_wp2
  go_ret
  exact ⟨rfl, HB8.out⟩

end Go.Proofs.YtohoddhegkjehaaGreatDoor
