import Derived.Test.YtiiapfkcmdkkoaaGreatDoorQ03
import Derived.Test.YtiiapfkcmdkkoaaGreatDoorShelf
/-
  What a head tells of its body (body.go): tell, sizeOfLength.
-/
namespace Go.Proofs.YtiiapfkcmdkkoaaGreatDoor
open Go.RowKit

set_option maxHeartbeats 400000 in
theorem tell_any (r : Nat) (k l k' l' : Int) (w : World) (h9 : w.cell? ⟨r, 9, none⟩ = some (.int .i64 k)) (h10 : w.cell? ⟨r, 10, none⟩ = some (.int .i64 l)) (f9 : w.frozen? ⟨r, 9, none⟩ = false) (f10 : w.frozen? ⟨r, 10, none⟩ = false) (hr : r < w.heap.size) :
    Calls Tryz.prog 197 #[.pointer (some ⟨r, 9, none⟩), .agg #[.int .i64 k', .int .i64 l']] w fun e w' => e = .returned (.tuple #[]) ∧
      ∃ o, w' = ((w.setCell ⟨r, 9, none⟩ (.int .i64 (if k = 0 then k' else 3))).setCell ⟨r, 10, none⟩ (.int .i64 (if k = 0 then l' else 0))).alloc o := by
  by_cases hk : k = 0
  · subst hk
    go_enter Tryz.func197, Tryz.ntmps197
    go_wp2
    go_end0
    exact ⟨rfl, _, rfl⟩
  · have hk' : (k == 0) = false := by simpa using hk
    go_enter Tryz.func197, Tryz.ntmps197
    go_wp2
    go_end0
    exact ⟨rfl, _, rfl⟩

/-- The number that digits tell. -/
def decVal (l : List UInt8) : Nat := l.foldl (fun n c => n * 10 + (c.toNat - 48)) 0
def allDig (l : List UInt8) : Bool := l.all fun c => isDigB c.toNat
/-- What a Content-Length says: its kind (1 counted, 3 unclear) and its number. -/
def lengthSays (l : List UInt8) : Nat × Nat := if l.length < 1 ∨ 9 < l.length then (3, 0) else if allDig l then (1, decVal l) else (3, 0)

theorem decVal_snoc (l : List UInt8) (c : UInt8) : decVal (l ++ [c]) = decVal l * 10 + (c.toNat - 48) := by simp [decVal, List.foldl_append]
theorem allDig_snoc (l : List UInt8) (c : UInt8) : allDig (l ++ [c]) = (allDig l && isDigB c.toNat) := by simp [allDig, List.all_append]
theorem decVal_from : ∀ (l : List UInt8) (n : Nat), allDig l = true → l.foldl (fun n c => n * 10 + (c.toNat - 48)) n < (n + 1) * 10 ^ l.length
  | [], n, _ => by simp
  | c :: l, n, h => by
    have hc : isDigB c.toNat = true ∧ allDig l = true := by simpa [allDig] using h
    have h2 : c.toNat ≤ 57 := by have := hc.1; simp [isDigB] at this; omega
    have h1 := decVal_from l (n * 10 + (c.toNat - 48)) hc.2
    simp only [List.foldl_cons, List.length_cons, Nat.pow_succ]
    refine Nat.lt_of_lt_of_le h1 ?_
    rw [Nat.mul_comm (10 ^ l.length) 10, ← Nat.mul_assoc]
    exact Nat.mul_le_mul_right _ (by omega)
theorem decVal_lt (l : List UInt8) (h : allDig l = true) : decVal l < 10 ^ l.length := by have := decVal_from l 0 h; rw [Nat.zero_add, Nat.one_mul] at this; exact this
theorem take_snoc' (s : ByteArray) (k : Nat) (h : k < s.size) : s.data.toList.take (k + 1) = s.data.toList.take k ++ [s[k]] := by
  rw [List.take_succ_eq_append_getElem (by simpa using h)]; rfl
theorem size_list (s : ByteArray) : s.data.toList.length = s.size := by rw [Array.length_toList]; rfl

set_option maxHeartbeats 800000 in
theorem sizeOfLength_any (s : ByteArray) (w : World) (hs : s.size ≤ 1000000) :
    Calls Tryz.prog 198 #[.string s] w fun e w' => e = .returned (.agg #[.int .i64 (lengthSays s.data.toList).1, .int .i64 (lengthSays s.data.toList).2]) ∧ Below w.heap.size w w' := by
  have hsz : s.data.toList.length = s.size := size_list s
  by_cases h1 : s.size < 1
  · have HS : Hid (lengthSays s.data.toList = (3, 0)) := by show _ = _; simp only [lengthSays, hsz]; rw [if_pos (Or.inl h1)]
    clear hsz
    go_enter Tryz.func198, Tryz.ntmps198
    go_wp2
    rw [HS.out]
    exact bodyPost_ret (v := .agg #[.int .i64 3, .int .i64 0]) (by simp [results, Tryz.results198, go_sem]) rfl ⟨rfl, (Below.refl _ _).alloc (Nat.le_refl _) _⟩
  by_cases h2 : 9 < s.size
  · have HS : Hid (lengthSays s.data.toList = (3, 0)) := by show _ = _; simp only [lengthSays, hsz]; rw [if_pos (Or.inr h2)]
    clear hsz
    go_enter Tryz.func198, Tryz.ntmps198
    go_wp2
    rw [HS.out]
    exact bodyPost_ret (v := .agg #[.int .i64 3, .int .i64 0]) (by simp [results, Tryz.results198, go_sem]) rfl ⟨rfl, (Below.refl _ _).alloc (Nat.le_refl _) _⟩
  have HS : Hid (lengthSays s.data.toList = if allDig s.data.toList then (1, decVal s.data.toList) else (3, 0)) := by show _ = _; simp only [lengthSays, hsz]; rw [if_neg (by omega)]
  have HL : Hid (s.data.toList.length = s.size) := hsz
  clear hsz
  have h1' : 1 ≤ s.size := by omega
  have h2' : s.size ≤ 9 := by omega
  clear h1 h2
  go_enter Tryz.func198, Tryz.ntmps198
  go_wp2
  go_loop [3, 16] (fun n i => ∃ k : Nat, k ≤ s.size ∧ i = .int .i64 k ∧ n = .int .i64 (decVal (s.data.toList.take k)) ∧ Hid (allDig (s.data.toList.take k) = true)) (fun _ i => s.size - (intOf i).toNat)
  case atStart => exact ⟨0, Nat.zero_le _, rfl, rfl, rfl⟩
  case round =>
    obtain ⟨k, hk, rfl, rfl, hd⟩ := hrel
    have hv := decVal_lt _ hd.out
    have hl : (s.data.toList.take k).length ≤ 9 := by rw [List.length_take]; omega
    have hv2 : decVal (s.data.toList.take k) ≤ 1000000000 := Nat.le_trans (Nat.le_of_lt hv) (Nat.le_trans (Nat.pow_le_pow_right (by omega) hl) (by decide))
    clear hv hl
    by_cases hlt : k < s.size
    · have hts := take_snoc' s k hlt
      cases hb : isDigB s[k].toNat
      · have HB : Hid (lengthSays s.data.toList = (3, 0)) := by
          show _ = _
          rw [HS.out, if_neg]
          intro ha
          have : isDigB s[k].toNat = true := by
            have hm : s[k] ∈ s.data.toList := by
              have := List.getElem_mem (l := s.data.toList) (n := k) (by rw [HL.out]; exact hlt)
              exact this
            exact (List.all_eq_true.1 ha) _ hm
          rw [hb] at this; cases this
        clear hts
        go_wp2_with (go_at_call 186; refine (isDigit_any _ _).mono ?_; rintro e w' ⟨rfl, rfl⟩)
        rw [HB.out]
        exact bodyPost_ret (v := .agg #[.int .i64 3, .int .i64 0]) (by simp [results, Tryz.results198, go_sem]) rfl ⟨rfl, (Below.refl _ _).alloc (Nat.le_refl _) _⟩
      · have hr : 48 ≤ (s[k].toNat : Int) ∧ (s[k].toNat : Int) ≤ 57 := by simpa [isDigB] using hb
        obtain ⟨hr1, hr2⟩ := hr
        have HV : Hid (decVal (s.data.toList.take (k + 1)) = decVal (s.data.toList.take k) * 10 + (s[k].toNat - 48)) := by show _ = _; rw [hts, decVal_snoc]
        have HD : Hid (allDig (s.data.toList.take (k + 1)) = true) := by show _ = _; rw [hts, allDig_snoc, hd.out, hb]; rfl
        clear hts
        go_wp2_with (go_at_call 186; refine (isDigit_any _ _).mono ?_; rintro e w' ⟨rfl, rfl⟩)
        go_round
        case rel => exact ⟨k + 1, by omega, by go_num, by rw [HV.out]; simp only [Value.int.injEq, true_and]; omega, HD⟩
        case measure => simp [intOf]; omega
    · have hkl : s.data.toList.take k = s.data.toList := List.take_of_length_le (by rw [HL.out]; omega)
      have HB : Hid (lengthSays s.data.toList = (1, decVal (s.data.toList.take k))) := by show _ = _; rw [HS.out, hkl, if_pos]; rw [hkl] at hd; exact hd
      clear hkl
      go_wp2
      rw [HB.out]
      exact bodyPost_ret (v := .agg #[.int .i64 1, .int .i64 (decVal (s.data.toList.take k))]) (by simp [results, Tryz.results198, go_sem]) rfl ⟨rfl, (Below.refl _ _).alloc (Nat.le_refl _) _⟩

end Go.Proofs.YtiiapfkcmdkkoaaGreatDoor

/-
  body.go and the head's end: sizeOfCoding, readBody, readCounted, endHead.
-/
namespace Go.Proofs.YtiiapfkcmdkkoaaGreatDoor
open Go.RowKit

def Ascii (l : List UInt8) : Prop := ∀ (j : Nat) (b : UInt8), l[j]? = some b → b.toNat < 128
def chunkedL : List UInt8 := [99, 104, 117, 110, 107, 101, 100]
/-- What a Transfer-Encoding says. -/
def codingSays (l : List UInt8) : Nat × Nat := if Lib.equalFold l chunkedL then (2, 0) else (3, 0)

theorem ascii_chunked : Ascii chunkedL := by
  intro j b h
  have := List.all_eq_true.1 (show chunkedL.all (fun b => decide (b.toNat < 128)) = true by decide) b (List.mem_of_getElem? h)
  simpa using this

set_option maxHeartbeats 400000 in
theorem sizeOfCoding_any (s : ByteArray) (w : World) (hs : s.size ≤ 1000000) (ha : Hid (Ascii s.data.toList)) :
    Calls Tryz.prog 199 #[.string s] w fun e w' => e = .returned (.agg #[.int .i64 (codingSays s.data.toList).1, .int .i64 (codingSays s.data.toList).2]) ∧ Below w.heap.size w w' := by
  have hE := Tryz.strings_EqualFold s ⟨#[99, 104, 117, 110, 107, 101, 100]⟩ (w.alloc (.cells #[.int .i64 0, .int .i64 0] 230)) (by omega) ha.out ascii_chunked
  have HE : Hid (Calls Tryz.prog 196 #[.string s, .string ⟨#[99, 104, 117, 110, 107, 101, 100]⟩] (w.alloc (.cells #[.int .i64 0, .int .i64 0] 230)) fun e w' => e = .returned (.bool (Lib.equalFold s.data.toList chunkedL)) ∧ w' = w.alloc (.cells #[.int .i64 0, .int .i64 0] 230)) := hE
  clear hE
  cases hb : Lib.equalFold s.data.toList chunkedL
  · have HS : Hid (codingSays s.data.toList = (3, 0)) := by show _ = _; simp only [codingSays, hb]; rfl
    rw [hb] at HE
    clear hb
    go_enter Tryz.func199, Tryz.ntmps199
    go_wp2_with fail
    refine HE.out.mono ?_
    rintro e w' ⟨rfl, hw⟩
    rw [hw]; clear hw w'
    go_wp2
    rw [HS.out]
    exact bodyPost_ret (v := .agg #[.int .i64 3, .int .i64 0]) (by simp [results, Tryz.results199, go_sem]) rfl ⟨rfl, (Below.refl _ _).alloc (Nat.le_refl _) _⟩
  · have HS : Hid (codingSays s.data.toList = (2, 0)) := by show _ = _; simp only [codingSays, hb]; rfl
    rw [hb] at HE
    clear hb
    go_enter Tryz.func199, Tryz.ntmps199
    go_wp2_with fail
    refine HE.out.mono ?_
    rintro e w' ⟨rfl, hw⟩
    rw [hw]; clear hw w'
    go_wp2
    rw [HS.out]
    exact bodyPost_ret (v := .agg #[.int .i64 2, .int .i64 0]) (by simp [results, Tryz.results199, go_sem]) rfl ⟨rfl, (Below.refl _ _).alloc (Nat.le_refl _) _⟩

theorem fail1_makes {F : Nat → Prop} {w : World} {r : Nat} {σ : RS} {nv : Value} {R : Nat → Value} (h : RdrB F w r σ nv R) : Makes 176 #[.pointer (some ⟨r, 0, none⟩), .int .i64 1] F w r (σ.failed 1) nv := fail_makes h 1
theorem fail2_makes {F : Nat → Prop} {w : World} {r : Nat} {σ : RS} {nv : Value} {R : Nat → Value} (h : RdrB F w r σ nv R) : Makes 176 #[.pointer (some ⟨r, 0, none⟩), .int .i64 2] F w r (σ.failed 2) nv := fail_makes h 2
theorem fail3_makes {F : Nat → Prop} {w : World} {r : Nat} {σ : RS} {nv : Value} {R : Nat → Value} (h : RdrB F w r σ nv R) : Makes 176 #[.pointer (some ⟨r, 0, none⟩), .int .i64 3] F w r (σ.failed 3) nv := fail_makes h 3

def RS.readBody (σ : RS) : RS :=
  if σ.kind = 3 then σ.failed 1
  else if σ.kind = 2 then ({ σ with signs := [] } : RS).fresh 8
  else if 100 < σ.length then σ.failed 2
  else if 0 < σ.length then { σ with tag := 2 }
  else { σ with tag := 0 }

theorem made_tag {F : Nat → Prop} {w : World} {r : Nat} {σ : RS} {nv sv : Value} {R : Nat → Value} (h : RdrB F w r σ nv R) (t : Nat) (hc : CloS F w r { σ with tag := t } sv) : Made F w w r { σ with tag := t } nv sv :=
  ⟨F, ⟨⟨R, { h with }⟩, hc⟩, Upd.refl _ _, fun _ hk => Or.inl hk⟩

set_option maxHeartbeats 400000 in
theorem readBody_makes {F : Nat → Prop} {w : World} {r : Nat} {σ : RS} {nv : Value} {R : Nat → Value} (h : Hid (RdrB F w r σ nv R)) (hl : σ.length ≤ 1000000000) : Makes 187 #[.pointer (some ⟨r, 0, none⟩)] F w r σ.readBody nv := by
  have hmf : ∀ (fn : Fn) (first cap : Array Value) (w : World), (Instr.makeFunc fn first cap).run Tryz.prog w = .ok (.func fn first cap) w := fun _ _ _ _ => rfl
  have c9 : w.cell? ⟨r, 9, none⟩ = some (.int .i64 σ.kind) := h.out.cell 9
  have c10 : w.cell? ⟨r, 10, none⟩ = some (.int .i64 σ.length) := h.out.cell 10
  unfold Makes
  by_cases h3 : σ.kind = 3
  · have HS : Hid (σ.readBody = σ.failed 1) := by show _ = _; simp only [RS.readBody, h3]; rfl
    have e3 : ((σ.kind : Int) == 3) = true := by simp [h3]
    rw [HS.out]
    clear h3
    go_enter Tryz.func187, Tryz.ntmps187
    go_wp2_with fail
    refine Calls.mono (fail1_makes h.out) ?_
    rintro e w' ⟨sv, rfl, hm⟩
    have HM : Hid _ := hm
    clear hm
    go_wp2
    go_ret
    exact ⟨sv, rfl, HM.out⟩
  have e3 : ((σ.kind : Int) == 3) = false := by rw [beq_eq_false_iff_ne]; omega
  by_cases h2 : σ.kind = 2
  · have HS : Hid (σ.readBody = ({ σ with signs := [] } : RS).fresh 8) := by show _ = _; simp only [RS.readBody, h2]; rfl
    have e2 : ((σ.kind : Int) == 2) = true := by simp [h2]
    rw [HS.out]
    clear h3 h2
    go_enter Tryz.func187, Tryz.ntmps187
    go_wp2_with fail
    refine Calls.mono (readChunk_makes h.out) ?_
    rintro e w' ⟨sv, rfl, hm⟩
    have HM : Hid _ := hm
    clear hm
    go_wp2
    go_ret
    exact ⟨sv, rfl, HM.out⟩
  have e2 : ((σ.kind : Int) == 2) = false := by rw [beq_eq_false_iff_ne]; omega
  by_cases h1 : 100 < σ.length
  · have HS : Hid (σ.readBody = σ.failed 2) := by show _ = _; unfold RS.readBody; rw [if_neg h3, if_neg h2, if_pos h1]
    rw [HS.out]
    clear h3 h2
    go_enter Tryz.func187, Tryz.ntmps187
    go_wp2_with fail
    refine Calls.mono (fail2_makes h.out) ?_
    rintro e w' ⟨sv, rfl, hm⟩
    have HM : Hid _ := hm
    clear hm
    go_wp2
    go_ret
    exact ⟨sv, rfl, HM.out⟩
  by_cases h0 : 0 < σ.length
  · have HS : Hid (σ.readBody = { σ with tag := 2 }) := by show _ = _; unfold RS.readBody; rw [if_neg h3, if_neg h2, if_neg h1, if_pos h0]
    rw [HS.out]
    clear h3 h2
    go_enter Tryz.func187, Tryz.ntmps187
    go_wp2
    go_ret
    exact ⟨_, rfl, made_tag h.out 2 rfl⟩
  · have HS : Hid (σ.readBody = { σ with tag := 0 }) := by show _ = _; unfold RS.readBody; rw [if_neg h3, if_neg h2, if_neg h1, if_neg h0]
    rw [HS.out]
    clear h3 h2
    go_enter Tryz.func187, Tryz.ntmps187
    go_wp2
    go_ret
    exact ⟨_, rfl, made_tag h.out 0 rfl⟩

end Go.Proofs.YtiiapfkcmdkkoaaGreatDoor
