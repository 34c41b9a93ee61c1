import Derived.Test.YtohoddhegkjehaaGreatDoorR1
/-
  farewell.
-/
namespace Go.Proofs.YtohoddhegkjehaaGreatDoor
open Go.RowKit Go.MapKept

theorem ext_list (l : List UInt8) (k n : Nat) : ((⟨l.toArray⟩ : ByteArray).extract k (k + n)).data.toList = (l.drop k).take n := by
  simp only [ByteArray.data_extract, Array.toList_extract]
  rw [List.extract_eq_take_drop, Nat.add_sub_cancel_left]
theorem ext_eq (l m : List UInt8) (k : Nat) : ((⟨l.toArray⟩ : ByteArray).extract k (k + m.length)).toList == m ↔ (l.drop k).take m.length = m := by
  rw [beq_iff_eq, ByteArray.toList_eq, ext_list]

set_option maxHeartbeats 1600000 in
set_option maxRecDepth 100000 in
theorem farewell_any (l : List UInt8) (hl : l.length ≤ 1000) (r : List UInt8) (h1 : Hid (l = httpL ++ r)) (p q : List UInt8) (h2 : Hid (l = p ++ (sepL ++ q))) (w : World) :
    Calls Tryz.prog 18 #[.string ⟨l.toArray⟩] w fun e w' => e = .returned (.bool true) ∧ Same w w' := by
  have hl9 : 9 ≤ l.length := by rw [h1.out, List.length_append]; exact Nat.le_add_right _ _
  have hlp : p.length + 21 ≤ l.length := by rw [h2.out, List.length_append, List.length_append]; show p.length + 21 ≤ p.length + (21 + q.length); omega
  have HS : Hid ((⟨l.toArray⟩ : ByteArray).size = l.length) := by show l.toArray.size = _; simp
  have H8 : Hid ((((⟨l.toArray⟩ : ByteArray).extract 0 8).toList == [72, 84, 84, 80, 47, 49, 46, 49]) = true) := by
    have := (ext_eq l [72, 84, 84, 80, 47, 49, 46, 49] 0).2 (by rw [h1.out]; rfl)
    exact this
  have H9 : Hid ((((⟨l.toArray⟩ : ByteArray).extract 0 9).toList == [72, 84, 84, 80, 47, 49, 46, 49, 32]) = true) := by
    have := (ext_eq l httpL 0).2 (by rw [h1.out]; rfl)
    exact this
  have H21 : Hid ((((⟨l.toArray⟩ : ByteArray).extract p.length (p.length + 21)).toList == sepL) = true) := by
    have := (ext_eq l sepL p.length).2 (by rw [h2.out, List.drop_left]; rfl)
    exact this
  go_enter Tryz.func18, Tryz.ntmps18
  go_wp2_with fail
  go_loopw [3, 4] (fun nv iv wr => ∃ n k : Nat, nv = .int .i64 n ∧ iv = .int .i64 k ∧ n ≤ k ∧ (1 ≤ k → 1 ≤ n) ∧ k ≤ 1000 ∧ Hid (Same w wr)) (fun _ iv _ => l.length - (intOf iv).toNat)
  case atStart => exact ⟨0, 0, rfl, rfl, Nat.le_refl _, fun h => absurd h (by omega), Nat.zero_le _, Upd.refl _ _⟩
  case round =>
    obtain ⟨n, k, rfl, rfl, hnk, hn1, hk1, hsm⟩ := hrel
    by_cases hk : k + 8 ≤ l.length
    · by_cases hk0 : k = 0
      · subst hk0
        have h8 := H8.out
        go_wp2
        all_goals exact ⟨⟨n + 1, 1, by go_num, by go_num, by omega, fun _ => by omega, by omega, hsm⟩, by simp [intOf]; omega⟩
      · have hn : 1 ≤ n := hn1 (by omega)
        cases hq : (((⟨l.toArray⟩ : ByteArray).extract k (k + 8)).toList == [72, 84, 84, 80, 47, 49, 46, 49])
        · go_wp2
          all_goals exact ⟨⟨n, k + 1, rfl, by go_num, by omega, fun _ => hn, by omega, hsm⟩, by simp [intOf]; omega⟩
        · go_wp2
          all_goals exact ⟨⟨n + 1, k + 1, by go_num, by go_num, by omega, fun _ => by omega, by omega, hsm⟩, by simp [intOf]; omega⟩
    · have hn : 1 ≤ n := hn1 (by omega)
      clear hn1
      go_wp2_with fail
      go_loopw [5, 6] (fun lv iv wr => ∃ (b : Bool) (k : Nat), lv = .bool b ∧ iv = .int .i64 k ∧ (p.length < k → b = true) ∧ k ≤ 1000 ∧ Hid (Same w wr)) (fun _ iv _ => l.length - (intOf iv).toNat)
      case atStart => exact ⟨false, 0, rfl, rfl, fun h => absurd h (by omega), Nat.zero_le _, hsm⟩
      case round =>
        obtain ⟨b, j, rfl, rfl, hb, hj1, hsm2⟩ := hrel
        clear hsm
        by_cases hj : j + 21 ≤ l.length
        · cases b
          · have hjp : j ≤ p.length := by
              rcases Nat.lt_or_ge p.length j with h | h
              · exact absurd (hb h) (by decide)
              · exact h
            by_cases hjq : j = p.length
            · subst hjq
              have h21 := H21.out
              unfold sepL at h21
              go_wp2
              all_goals exact ⟨⟨true, p.length + 1, rfl, by go_num, fun _ => rfl, by omega, hsm2⟩, by simp [intOf]; omega⟩
            · cases hq : (((⟨l.toArray⟩ : ByteArray).extract j (j + 21)).toList == [13, 10, 67, 111, 110, 110, 101, 99, 116, 105, 111, 110, 58, 32, 99, 108, 111, 115, 101, 13, 10])
              · go_wp2
                all_goals exact ⟨⟨false, j + 1, rfl, by go_num, fun h => absurd h (by omega), by omega, hsm2⟩, by simp [intOf]; omega⟩
              · go_wp2
                all_goals exact ⟨⟨true, j + 1, rfl, by go_num, fun _ => rfl, by omega, hsm2⟩, by simp [intOf]; omega⟩
          · go_wp2
            all_goals exact ⟨⟨true, j + 1, rfl, by go_num, fun _ => rfl, by omega, hsm2⟩, by simp [intOf]; omega⟩
        · obtain rfl : b = true := hb (by omega)
          have h9 := H9.out
          clear hb
          go_wp2
          go_ret
          exact ⟨by first | rfl | exact ret_bool (by simp), hsm2.out⟩

end Go.Proofs.YtohoddhegkjehaaGreatDoor
