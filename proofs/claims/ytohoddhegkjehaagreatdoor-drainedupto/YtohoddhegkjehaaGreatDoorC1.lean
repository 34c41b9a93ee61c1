import Derived.Test.YtohoddhegkjehaaGreatDoorB8
import Derived.Lib.ConvBytes
/-
  strconv.ParseInt of one to four signs, base 16.
-/
namespace Go.Proofs.YtohoddhegkjehaaGreatDoor
open Go.RowKit

theorem ret_int {k : IntKind} {a b : Int} (h : a = b) : Ending.returned (.int k a) = .returned (.int k b) := by rw [h]
/-- A letter made small. -/
def lowOf (c : Int) : Int := if c ≤ 70 then c + 32 else c

set_option maxHeartbeats 400000 in
theorem lower_letter (c : Int) (h : (65 ≤ c ∧ c ≤ 70) ∨ (97 ≤ c ∧ c ≤ 102)) (w : World) :
    Calls Tryz.prog 161 #[.int .u8 c] w fun e w' => e = .returned (.int .u8 (lowOf c)) ∧ w' = w := by
  have hc : c = 65 ∨ c = 66 ∨ c = 67 ∨ c = 68 ∨ c = 69 ∨ c = 70 ∨ c = 97 ∨ c = 98 ∨ c = 99 ∨ c = 100 ∨ c = 101 ∨ c = 102 := by omega
  clear h
  rcases hc with rfl | rfl | rfl | rfl | rfl | rfl | rfl | rfl | rfl | rfl | rfl | rfl
  all_goals
    go_enter Tryz.func161, Tryz.ntmps161
    go_wp2
    go_ret
    exact ⟨ret_int (by decide), rfl⟩

theorem hexVal_snoc (l : List UInt8) (c : UInt8) : hexVal (l ++ [c]) = hexVal l * 16 + hexDig c := by simp [hexVal, List.foldl_append]

set_option maxHeartbeats 1600000 in
set_option maxRecDepth 100000 in
theorem parseUint_hex (t : ByteArray) (w : World) (h1 : 1 ≤ t.size) (h4 : t.size ≤ 4) (hs : Hid (∀ c ∈ t.data.toList, isSignB c.toNat = true)) :
    Calls Tryz.prog 154 #[.string t, .int .i64 16, .int .i64 32] w fun e w' => e = .returned (.tuple #[.int .u64 (hexVal t.data.toList), .nilIface]) ∧ w' = Lib.bytesWorld w 5 t := by
  have hemp : t.toList.isEmpty = false := by
    rw [← decide_eq_emptyBytes]
    exact decide_eq_false (fun h => by rw [h] at h1; exact absurd h1 (by decide))
  have hcv := Lib.run_convert_string_bytes (P := Tryz.prog) w 9 56 5 t (u := .string) Tryz.und9 Tryz.und56 Tryz.und5
  have hB : ∀ j, j < t.size → (Lib.bytesWorld w 5 t).cell? ⟨w.heap.size, j, none⟩ = some (.int .u8 (t.data.toList.getD j 0).toNat) := fun j hj => Lib.bytesWorld_cell w 5 t j hj
  obtain ⟨W1, hW1⟩ : ∃ W1, W1 = Lib.bytesWorld w 5 t := ⟨_, rfl⟩
  rw [← hW1] at hcv hB ⊢
  clear hW1
  have HL : Hid (t.data.toList.length = t.size) := size_list t
  go_enter Tryz.func154, Tryz.ntmps154
  go_wp2
  go_loop [12, 13, 101] (fun vu vn vi => ∃ (k : Nat) (a : Int), vu = .bool false ∧ vn = .int .u64 a ∧ vi = .int .i64 k ∧ k ≤ t.size ∧ Hid (a = (hexVal (t.data.toList.take k) : Int)))
    (fun _ _ vi => t.size - (intOf vi).toNat)
  case atStart => exact ⟨0, 0, rfl, rfl, rfl, by omega, rfl⟩
  case round =>
    obtain ⟨k, a, rfl, rfl, rfl, hk, ha⟩ := hrel
    have hlt := hexVal_lt (t.data.toList.take k) (fun c hc => hs.out c (List.mem_of_mem_take hc)) (by rw [List.length_take, HL.out]; omega)
    have a0 : 0 ≤ a := by rw [ha.out]; omega
    have a1 : a < 65536 := by rw [ha.out]; omega
    clear hlt
    by_cases hkn : k < t.size
    · have hc := hB k hkn
      have hts := take_snoc' t k hkn
      have hget : t.data.toList.getD k 0 = t[k] := by
        have hk' : k < t.data.toList.length := by rw [HL.out]; exact hkn
        rw [List.getD, List.getElem?_eq_getElem hk']; rfl
      have hsg : isSignB t[k].toNat = true := by
        refine hs.out _ ?_
        have := List.getElem_mem (l := t.data.toList) (n := k) (by rw [HL.out]; exact hkn)
        exact this
      rw [hget] at hc
      have HV : Hid (∀ a' : Int, a' = a * 16 + (hexDig t[k] : Int) → a' = (hexVal (t.data.toList.take (k + 1)) : Int)) := by
        intro a' e
        rw [e, hts, hexVal_snoc, ha.out]
        omega
      clear hts hget hB ha
      generalize t[k] = c at hc hsg HV
      simp only [isSignB, isDigB, Bool.or_eq_true, Bool.and_eq_true, decide_eq_true_eq] at hsg
      rcases hsg with (⟨l0, l1⟩ | ⟨l0, l1⟩) | ⟨l0, l1⟩
      · have HD : Hid ((hexDig c : Int) = (c.toNat : Int) - 48) := by show _ = _; unfold hexDig; rw [if_pos (by omega)]; omega
        go_wp2
        refine ⟨⟨k + 1, a * 16 + ((c.toNat : Int) - 48), rfl, ?_, ?_, by omega, HV.out _ (by rw [HD.out])⟩, by simp [intOf]; omega⟩
        · first | rfl | (congr 1; omega)
        · first | rfl | (congr 1; omega)
      · have HD : Hid ((hexDig c : Int) = lowOf (c.toNat : Int) - 97 + 10) := by show _ = _; unfold hexDig lowOf; split <;> (try split) <;> (try split) <;> omega
        have q0 : 97 ≤ lowOf (c.toNat : Int) := by unfold lowOf; split <;> omega
        have q1 : lowOf (c.toNat : Int) ≤ 102 := by unfold lowOf; split <;> omega
        go_wp2_with (go_at_call 161; refine (lower_letter _ (by omega) _).mono ?_; rintro e w' ⟨rfl, rfl⟩)
        refine ⟨⟨k + 1, a * 16 + (lowOf (c.toNat : Int) - 97 + 10), rfl, ?_, ?_, by omega, HV.out _ (by rw [HD.out])⟩, by simp [intOf]; omega⟩
        · first | rfl | (congr 1; omega)
        · first | rfl | (congr 1; omega)
      · have HD : Hid ((hexDig c : Int) = lowOf (c.toNat : Int) - 97 + 10) := by show _ = _; unfold hexDig lowOf; split <;> (try split) <;> (try split) <;> omega
        have q0 : 97 ≤ lowOf (c.toNat : Int) := by unfold lowOf; split <;> omega
        have q1 : lowOf (c.toNat : Int) ≤ 102 := by unfold lowOf; split <;> omega
        go_wp2_with (go_at_call 161; refine (lower_letter _ (by omega) _).mono ?_; rintro e w' ⟨rfl, rfl⟩)
        refine ⟨⟨k + 1, a * 16 + (lowOf (c.toNat : Int) - 97 + 10), rfl, ?_, ?_, by omega, HV.out _ (by rw [HD.out])⟩, by simp [intOf]; omega⟩
        · first | rfl | (congr 1; omega)
        · first | rfl | (congr 1; omega)
    · have hkk : k = t.size := by omega
      have hF : t.data.toList.take k = t.data.toList := List.take_of_length_le (by rw [HL.out]; omega)
      have HF : Hid (a = (hexVal t.data.toList : Int)) := by rw [hF] at ha; exact ha
      clear hF ha
      go_wp2
      go_ret2
      exact ⟨by rw [HF.out]; rfl, rfl⟩

set_option maxHeartbeats 800000 in
set_option maxRecDepth 100000 in
theorem parseIntIn_hex (t : ByteArray) (w : World) (h1 : 1 ≤ t.size) (h4 : t.size ≤ 4) (hs : Hid (∀ c ∈ t.data.toList, isSignB c.toNat = true)) :
    Calls Tryz.prog 146 #[.string t, .int .i64 16, .int .i64 32] w fun e w' => e = .returned (.tuple #[.int .i64 (hexVal t.data.toList), .nilIface]) ∧ w' = Lib.bytesWorld w 5 t := by
  have hemp : t.toList.isEmpty = false := by
    rw [← decide_eq_emptyBytes]
    exact decide_eq_false (fun h => by rw [h] at h1; exact absurd h1 (by decide))
  have hsg : isSignB (t[0]'(by omega)).toNat = true := by
    refine hs.out _ ?_
    have := List.getElem_mem (l := t.data.toList) (n := 0) (by rw [size_list]; omega)
    exact this
  have hx := hexVal_lt t.data.toList hs.out (by rw [size_list]; exact h4)
  have n43 : ((t[0]'(by omega)).toNat : Int) ≠ 43 := by intro e; rw [show (t[0]'(by omega)).toNat = 43 by omega] at hsg; exact absurd hsg (by decide)
  have n45 : ((t[0]'(by omega)).toNat : Int) ≠ 45 := by intro e; rw [show (t[0]'(by omega)).toNat = 45 by omega] at hsg; exact absurd hsg (by decide)
  clear hsg
  have HP : Hid (Calls Tryz.prog 154 #[.string t, .int .i64 16, .int .i64 32] w fun e w' => e = .returned (.tuple #[.int .u64 (hexVal t.data.toList), .nilIface]) ∧ w' = Lib.bytesWorld w 5 t) := parseUint_hex t w h1 h4 hs
  obtain ⟨y, hy⟩ : ∃ y : Int, y = (hexVal t.data.toList : Int) := ⟨_, rfl⟩
  rw [← hy] at HP ⊢
  have y0 : 0 ≤ y := by omega
  have y1 : y < 65536 := by omega
  clear hy hx
  go_enter Tryz.func146, Tryz.ntmps146
  go_wp2_with fail
  refine HP.out.mono ?_
  rintro e w1 ⟨rfl, rfl⟩
  go_wp2
  go_ret2
  exact ⟨rfl, rfl⟩

set_option maxHeartbeats 800000 in
theorem parse_hex : ParseHex := by
  intro t w h1 h4 hs
  have HP : Hid (Calls Tryz.prog 146 #[.string t, .int .i64 16, .int .i64 32] w fun e w' => e = .returned (.tuple #[.int .i64 (hexVal t.data.toList), .nilIface]) ∧ w' = Lib.bytesWorld w 5 t) := parseIntIn_hex t w h1 h4 hs
  have HU : Hid (Upd (fun _ => False) w (Lib.bytesWorld w 5 t)) := by
    have h1 : Upd (fun _ => False) w (w.drew.alloc (.cells (Lib.bytesCells w 5 t) 5)) := (Upd.refl _ w).drew.alloc _
    refine ⟨h1.os, h1.tape, h1.output, ?_, fun k hk hn => ?_⟩
    · simp [Lib.bytesWorld, World.freeze]
    · rw [← h1.block k hk hn]
      simp only [Lib.bytesWorld, World.freeze]
      rw [if_neg (by omega)]
      show (Array.modify _ _ _)[k]? = _
      rw [Array.getElem?_modify, if_neg (by omega)]
  go_enter Tryz.func134, Tryz.ntmps134
  go_wp2_with fail
  refine HP.out.mono ?_
  rintro e w1 ⟨rfl, hw⟩
  rw [← hw] at HU
  clear hw
  go_wp2
  go_ret2
  exact ⟨rfl, HU.out⟩

end Go.Proofs.YtohoddhegkjehaaGreatDoor
