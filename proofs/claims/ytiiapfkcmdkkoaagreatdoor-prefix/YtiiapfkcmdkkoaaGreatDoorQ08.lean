import Derived.Test.YtiiapfkcmdkkoaaGreatDoorQ07
import Derived.Lib.ConvBytes
/-
  Reader.Read.
-/
namespace Go.Proofs.YtiiapfkcmdkkoaaGreatDoor
open Go.RowKit

/-- A byte is read by a state. -/
def RS.step (σ : RS) (b : UInt8) : RS :=
  match σ.tag with
  | 1 => σ.fields b
  | 2 => σ.counted b
  | _ => σ.piece b
/-- Read: a byte is counted and read. -/
def RS.read (σ : RS) (b : UInt8) : RS :=
  if σ.headOver = false ∧ 200 < σ.count + 1 then ({ σ with count := σ.count + 1 } : RS).failed 3 else ({ σ with count := σ.count + 1 } : RS).step b

/-- The reader in memory. -/
def Rd (F : Nat → Prop) (w : World) (r : Nat) (σ : RS) : Prop := ∃ sv, Rdr F w r σ sv sv

theorem Rd.keep {F M : Nat → Prop} {w w' : World} {r : Nat} {σ : RS} (h : Rd F w r σ) (hu : Upd M w w') (hd : ∀ k, F k → ¬ M k) : Rd F w' r σ := by
  obtain ⟨sv, h⟩ := h
  exact ⟨sv, h.keep hu hd⟩

theorem CloS.keep_r {F : Nat → Prop} {w w' : World} {r : Nat} {σ σ' : RS} {sv : Value} {c : Array Value} (h : CloS F w r σ sv) (hr : w.heap[r]? = some (.cells c 232 (0, 0))) (hu : Upd (fun k => k = r) w w') (e1 : σ'.tag = σ.tag) (e2 : σ'.sz = σ.sz) (e3 : σ'.ph = σ.ph) (e4 : σ'.kept = σ.kept) (e5 : σ'.met = σ.met) : CloS F w' r σ' sv := by
  unfold CloS at h ⊢
  rw [e1, e2, e3, e4, e5]
  split
  · rename_i e; rw [e] at h; exact h
  · rename_i e; rw [e] at h; obtain ⟨q, h1, h2, h3⟩ := h
    exact ⟨q, h1, hu.keep h2 (by intro e; subst e; rw [h2] at hr; simp at hr), h3⟩
  · rename_i e; rw [e] at h; exact h
  · rename_i h0 h1 h2
    split at h
    · rename_i e; exact absurd e h0
    · rename_i e; exact absurd e h1
    · rename_i e; exact absurd e h2
    · obtain ⟨B, e1, e2, e3⟩ := h
      exact ⟨B, e1, e2.keep hu (fun k h1 h2 e => e2.ne hr k h1 h2 e), e3⟩

theorem CloS.form {F : Nat → Prop} {w : World} {r : Nat} {σ : RS} {sv : Value} (h : CloS F w r σ sv) : (sv = .nilFunc ∧ σ.tag = 0) ∨ (∃ fn first cap, sv = .func fn first cap) ∧ σ.tag ≠ 0 := by
  unfold CloS at h
  split at h
  · rename_i e; exact Or.inl ⟨h, e⟩
  · rename_i e; obtain ⟨q, h1, _⟩ := h; exact Or.inr ⟨⟨_, _, _, h1⟩, by omega⟩
  · rename_i e; exact Or.inr ⟨⟨_, _, _, h⟩, by omega⟩
  · rename_i h0 h1 h2; obtain ⟨B, h1, _⟩ := h; exact Or.inr ⟨⟨_, _, _, h1⟩, h0⟩

/-- The next state is stored. -/
theorem made_stored {F : Nat → Prop} {w w1 : World} {r : Nat} {σ : RS} {nv sv : Value} (h : Made F w w1 r σ nv sv) : ∃ F', Rd F' (w1.setCell ⟨r, 0, none⟩ sv) r σ ∧ Upd F w (w1.setCell ⟨r, 0, none⟩ sv) ∧ ∀ k, F' k → F k ∨ (w.heap.size ≤ k ∧ k < (w1.setCell ⟨r, 0, none⟩ sv).heap.size) := by
  obtain ⟨F', ⟨⟨R, hB⟩, hC⟩, hU, hf⟩ := h
  have hu := Upd.one w1 r 0 sv
  refine ⟨F', ⟨sv, ⟨R, hB.upd hu (by have := heap_setCell hB.blk 0 sv; simpa using this) (fun f _ => .same _ _)⟩, hC.keep_r hB.blk hu rfl rfl rfl rfl rfl⟩, ?_, fun k hk => by rw [size_setCell]; exact hf k hk⟩
  refine ⟨hU.os, hU.tape, hU.output, by rw [size_setCell]; exact hU.size, fun k hk hn => (Below.heap_setCell _ _ _ _ ?_).trans (hU.block k hk hn)⟩
  intro e
  have e' : k = r := e
  rw [e'] at hn hk
  rcases hf r hB.fr with h1 | h1
  · exact hn h1
  · omega

/-- A state's function, called with a byte. -/
theorem step_calls (hP : Hid ParseHex) {F : Nat → Prop} {w : World} {r : Nat} {σ : RS} {nv sv : Value} {R : Nat → Value} (h : RdrB F w r σ nv R) (hc : CloS F w r σ sv) (g : Good σ) (h0 : σ.tag ≠ 0) (b : UInt8) :
    ∃ fn first cap, sv = .func (.func fn) first cap ∧ Ent fn ∧ Makes fn (first ++ #[.int .u8 b.toNat] ++ cap) F w r (σ.step b) nv := by
  unfold CloS at hc
  unfold RS.step
  split at hc
  · rename_i e; exact absurd e h0
  · rename_i e; rw [e]; obtain ⟨q, rfl, hq, _⟩ := hc
    exact ⟨_, _, _, rfl, enters_of Tryz.func181 (by kernel_rfl) rfl, fields_makes hP h hq g b⟩
  · rename_i e; rw [e]; subst hc
    exact ⟨_, _, _, rfl, enters_of Tryz.func190 (by kernel_rfl) rfl, readCounted_makes h b (Nat.le_trans (g.size 12 (by simp [IsRow])) (by omega))⟩
  · rename_i e0 e1 e2
    obtain ⟨B, rfl, hclo, hF⟩ := hc
    have e1' : σ.tag ≠ 1 := e1
    have e2' : σ.tag ≠ 2 := e2
    have h3 : 3 ≤ σ.tag := by omega
    refine ⟨_, _, _, rfl, enters_of Tryz.func177 (by kernel_rfl) rfl, ?_⟩
    have := piece_makes hP h hclo hF h3 g b
    split
    · rename_i e; exact absurd e e1
    · rename_i e; exact absurd e e2
    · exact this

set_option maxHeartbeats 800000 in
set_option maxRecDepth 100000 in
theorem read_any (hP : Hid ParseHex) {F : Nat → Prop} {w : World} {r : Nat} {σ : RS} (h : Rd F w r σ) (g : Good σ) (h0 : σ.tag ≠ 0) (hct : σ.count ≤ 1000000000) (b : UInt8) :
    Calls Tryz.prog 170 #[.pointer (some ⟨r, 0, none⟩), .int .u8 b.toNat] w fun e w' => e = .returned (.bool (decide ((σ.read b).tag = 0))) ∧ ∃ F', Rd F' w' r (σ.read b) ∧ Upd F w w' ∧ ∀ k, F' k → F k ∨ (w.heap.size ≤ k ∧ k < w'.heap.size) := by
  obtain ⟨sv, ⟨R, hB⟩, hC⟩ := h
  have c0 : w.cell? ⟨r, 0, none⟩ = some sv := hB.cell 0
  have f0 : w.frozen? ⟨r, 0, none⟩ = false := hB.unfrozen 0
  have c1 : w.cell? ⟨r, 1, none⟩ = some (.int .i64 σ.count) := hB.cell 1
  have f1 : w.frozen? ⟨r, 1, none⟩ = false := hB.unfrozen 1
  have c2 : w.cell? ⟨r, 2, none⟩ = some (.bool σ.headOver) := hB.cell 2
  have hu : Upd (fun k => k = r) w (w.setCell ⟨r, 1, none⟩ (.int .i64 ((σ.count : Int) + 1))) := Upd.one _ _ _ _
  have HU : Hid (Upd F w (w.setCell ⟨r, 1, none⟩ (.int .i64 ((σ.count : Int) + 1)))) := hu.mono (by rintro k _ rfl; exact hB.fr)
  have hB1 : RdrB F (w.setCell ⟨r, 1, none⟩ (.int .i64 ((σ.count : Int) + 1))) r { σ with count := σ.count + 1 } sv R := hB.upd hu (by have := heap_setCell hB.blk 1 (.int .i64 ((σ.count : Int) + 1)); simpa using this) (fun f _ => .same _ _)
  have hC1 : CloS F (w.setCell ⟨r, 1, none⟩ (.int .i64 ((σ.count : Int) + 1))) r { σ with count := σ.count + 1 } sv := hC.keep_r hB.blk hu rfl rfl rfl rfl rfl
  obtain ⟨fn, first, cap, rfl, hent, hmk⟩ := step_calls hP hB1 hC1 ({ g with } : Good { σ with count := σ.count + 1 }) h0 b
  have HB : Hid (RdrB F (w.setCell ⟨r, 1, none⟩ (.int .i64 ((σ.count : Int) + 1))) r { σ with count := σ.count + 1 } (.func (.func fn) first cap) R) := hB1
  have HM : Hid (Makes fn (first ++ #[.int .u8 b.toNat] ++ cap) F (w.setCell ⟨r, 1, none⟩ (.int .i64 ((σ.count : Int) + 1))) r (({ σ with count := σ.count + 1 } : RS).step b) (.func (.func fn) first cap)) := hmk
  clear hB hC hu hB1 hC1 hmk g
  have hfe : ∀ (fn : Fn) (first cap : Array Value) (W : World), (binOp .eql 227 (.func fn first cap) .nilFunc).run Tryz.prog W = .ok (.bool false) W := fun _ _ _ _ => rfl
  have hfn : ∀ (W : World), (binOp .eql 227 .nilFunc .nilFunc).run Tryz.prog W = .ok (.bool true) W := fun _ => rfl
  by_cases ho : σ.headOver = false ∧ 200 < σ.count + 1
  · have HS : Hid (σ.read b = ({ σ with count := σ.count + 1 } : RS).failed 3) := by show _ = _; unfold RS.read; rw [if_pos ho]
    obtain ⟨ho1, ho2⟩ := ho
    rw [ho1] at c2
    clear ho1
    go_enter Tryz.func170, Tryz.ntmps170
    go_wp2_with fail
    refine Calls.mono (fail3_makes HB.out) ?_
    rintro e w2 ⟨sv, rfl, hm⟩
    obtain ⟨F2, ⟨⟨R2, hB2⟩, hC2⟩, hU2, hf2⟩ := id hm
    have d0 : w2.cell? ⟨r, 0, none⟩ = some (.func (.func fn) first cap) := hB2.cell 0
    have g0 : w2.frozen? ⟨r, 0, none⟩ = false := hB2.unfrozen 0
    obtain rfl : sv = .nilFunc := hC2
    have HE : Hid (∃ F', Rd F' (w2.setCell ⟨r, 0, none⟩ .nilFunc) r (({ σ with count := σ.count + 1 } : RS).failed 3) ∧ Upd F w (w2.setCell ⟨r, 0, none⟩ .nilFunc) ∧ ∀ k, F' k → F k ∨ (w.heap.size ≤ k ∧ k < (w2.setCell ⟨r, 0, none⟩ .nilFunc).heap.size)) := made_stored (hm.from HU.out)
    clear hm hB2 hU2 hf2
    go_wp2
    go_ret
    rw [HS.out]
    exact ⟨rfl, HE.out⟩
  · have HS : Hid (σ.read b = ({ σ with count := σ.count + 1 } : RS).step b) := by show _ = _; unfold RS.read; rw [if_neg ho]
    have hcase : σ.headOver = true ∨ (σ.headOver = false ∧ σ.count + 1 ≤ 200) := by
      cases hh : σ.headOver
      · right; exact ⟨rfl, by rw [hh] at ho; simp at ho; omega⟩
      · exact Or.inl rfl
    clear ho
    rcases hcase with hh | ⟨hh, hle⟩
    all_goals
      rw [hh] at c2
      clear hh
      go_enter Tryz.func170, Tryz.ntmps170
      go_wp2_with fail
      refine Calls.mono HM.out ?_
      rintro e w2 ⟨sv, rfl, hm⟩
      obtain ⟨F2, ⟨⟨R2, hB2⟩, hC2⟩, hU2, hf2⟩ := id hm
      have d0 : w2.cell? ⟨r, 0, none⟩ = some (.func (.func fn) first cap) := hB2.cell 0
      have g0 : w2.frozen? ⟨r, 0, none⟩ = false := hB2.unfrozen 0
      have HE : Hid (∃ F', Rd F' (w2.setCell ⟨r, 0, none⟩ sv) r (({ σ with count := σ.count + 1 } : RS).step b) ∧ Upd F w (w2.setCell ⟨r, 0, none⟩ sv) ∧ ∀ k, F' k → F k ∨ (w.heap.size ≤ k ∧ k < (w2.setCell ⟨r, 0, none⟩ sv).heap.size)) := made_stored (hm.from HU.out)
      have hform := hC2.form
      clear hm hB2 hU2 hf2 hC2
      rcases hform with ⟨rfl, ht⟩ | ⟨⟨fn2, first2, cap2, rfl⟩, ht⟩
      · have HT : Hid ((({ σ with count := σ.count + 1 } : RS).step b).tag = 0) := ht
        clear ht
        go_wp2
        go_ret
        rw [HS.out]
        exact ⟨ret_bool (decide_eq_true HT.out).symm, HE.out⟩
      · have HT : Hid ((({ σ with count := σ.count + 1 } : RS).step b).tag ≠ 0) := ht
        clear ht
        go_wp2
        go_ret
        rw [HS.out]
        exact ⟨ret_bool (decide_eq_false HT.out).symm, HE.out⟩

end Go.Proofs.YtiiapfkcmdkkoaaGreatDoor

/-
  strconv.ParseInt of one to four signs, base 16.
-/
namespace Go.Proofs.YtiiapfkcmdkkoaaGreatDoor
open Go.RowKit

theorem ret_int {k : IntKind} {a b : Int} (h : a = b) : Ending.returned (.int k a) = .returned (.int k b) := by rw [h]
/-- A letter made small. -/
def lowOf (c : Int) : Int := if c ≤ 70 then c + 32 else c

set_option maxHeartbeats 400000 in
theorem lower_letter (c : Int) (h : (65 ≤ c ∧ c ≤ 70) ∨ (97 ≤ c ∧ c ≤ 102)) (w : World) :
    Calls Tryz.prog 227 #[.int .u8 c] w fun e w' => e = .returned (.int .u8 (lowOf c)) ∧ w' = w := by
  have hc : c = 65 ∨ c = 66 ∨ c = 67 ∨ c = 68 ∨ c = 69 ∨ c = 70 ∨ c = 97 ∨ c = 98 ∨ c = 99 ∨ c = 100 ∨ c = 101 ∨ c = 102 := by omega
  clear h
  rcases hc with rfl | rfl | rfl | rfl | rfl | rfl | rfl | rfl | rfl | rfl | rfl | rfl
  all_goals
    go_enter Tryz.func227, Tryz.ntmps227
    go_wp2
    go_ret
    exact ⟨ret_int (by decide), rfl⟩

theorem hexVal_snoc (l : List UInt8) (c : UInt8) : hexVal (l ++ [c]) = hexVal l * 16 + hexDig c := by simp [hexVal, List.foldl_append]

set_option maxHeartbeats 1600000 in
set_option maxRecDepth 100000 in
theorem parseUint_hex (t : ByteArray) (w : World) (h1 : 1 ≤ t.size) (h4 : t.size ≤ 4) (hs : Hid (∀ c ∈ t.data.toList, isSignB c.toNat = true)) :
    Calls Tryz.prog 220 #[.string t, .int .i64 16, .int .i64 32] w fun e w' => e = .returned (.tuple #[.int .u64 (hexVal t.data.toList), .nilIface]) ∧ w' = Lib.bytesWorld w 5 t := by
  have hemp : t.toList.isEmpty = false := by
    rw [← decide_eq_emptyBytes]
    exact decide_eq_false (fun h => by rw [h] at h1; exact absurd h1 (by decide))
  have hcv := Lib.run_convert_string_bytes (P := Tryz.prog) w 9 70 5 t (u := .string) Tryz.und9 Tryz.und70 Tryz.und5
  have hB : ∀ j, j < t.size → (Lib.bytesWorld w 5 t).cell? ⟨w.heap.size, j, none⟩ = some (.int .u8 (t.data.toList.getD j 0).toNat) := fun j hj => Lib.bytesWorld_cell w 5 t j hj
  obtain ⟨W1, hW1⟩ : ∃ W1, W1 = Lib.bytesWorld w 5 t := ⟨_, rfl⟩
  rw [← hW1] at hcv hB ⊢
  clear hW1
  have HL : Hid (t.data.toList.length = t.size) := size_list t
  go_enter Tryz.func220, Tryz.ntmps220
  go_wp2
  go_loop [12, 13, 101] (fun vu vn vi => ∃ (k : Nat) (a : Int), vu = .bool false ∧ vn = .int .u64 a ∧ vi = .int .i64 k ∧ k ≤ t.size ∧ Hid (a = (hexVal (t.data.toList.take k) : Int)))
    (fun _ _ vi => t.size - (intOf vi).toNat)
  case atStart => exact ⟨0, 0, rfl, rfl, rfl, by omega, rfl⟩
  case round =>
    obtain ⟨k, a, rfl, rfl, rfl, hk, ha⟩ := hrel
    have hlt := hexVal_lt (t.data.toList.take k) (fun c hc => hs.out c (List.mem_of_mem_take hc)) (by rw [List.length_take, HL.out]; omega)
    have a0 : 0 ≤ a := by rw [ha.out]; omega
    have a1 : a < 65536 := by rw [ha.out]; omega
    clear hlt
    by_cases hkn : k < t.size
    · have hc := hB k hkn
      have hts := take_snoc' t k hkn
      have hget : t.data.toList.getD k 0 = t[k] := by
        have hk' : k < t.data.toList.length := by rw [HL.out]; exact hkn
        rw [List.getD, List.getElem?_eq_getElem hk']; rfl
      have hsg : isSignB t[k].toNat = true := by
        refine hs.out _ ?_
        have := List.getElem_mem (l := t.data.toList) (n := k) (by rw [HL.out]; exact hkn)
        exact this
      rw [hget] at hc
      have HV : Hid (∀ a' : Int, a' = a * 16 + (hexDig t[k] : Int) → a' = (hexVal (t.data.toList.take (k + 1)) : Int)) := by
        intro a' e
        rw [e, hts, hexVal_snoc, ha.out]
        omega
      clear hts hget hB ha
      generalize t[k] = c at hc hsg HV
      simp only [isSignB, isDigB, Bool.or_eq_true, Bool.and_eq_true, decide_eq_true_eq] at hsg
      rcases hsg with (⟨l0, l1⟩ | ⟨l0, l1⟩) | ⟨l0, l1⟩
      · have HD : Hid ((hexDig c : Int) = (c.toNat : Int) - 48) := by show _ = _; unfold hexDig; rw [if_pos (by omega)]; omega
        go_wp2
        refine ⟨⟨k + 1, a * 16 + ((c.toNat : Int) - 48), rfl, ?_, ?_, by omega, HV.out _ (by rw [HD.out])⟩, by simp [intOf]; omega⟩
        · first | rfl | (congr 1; omega)
        · first | rfl | (congr 1; omega)
      · have HD : Hid ((hexDig c : Int) = lowOf (c.toNat : Int) - 97 + 10) := by show _ = _; unfold hexDig lowOf; split <;> (try split) <;> (try split) <;> omega
        have q0 : 97 ≤ lowOf (c.toNat : Int) := by unfold lowOf; split <;> omega
        have q1 : lowOf (c.toNat : Int) ≤ 102 := by unfold lowOf; split <;> omega
        go_wp2_with (go_at_call 227; refine (lower_letter _ (by omega) _).mono ?_; rintro e w' ⟨rfl, rfl⟩)
        refine ⟨⟨k + 1, a * 16 + (lowOf (c.toNat : Int) - 97 + 10), rfl, ?_, ?_, by omega, HV.out _ (by rw [HD.out])⟩, by simp [intOf]; omega⟩
        · first | rfl | (congr 1; omega)
        · first | rfl | (congr 1; omega)
      · have HD : Hid ((hexDig c : Int) = lowOf (c.toNat : Int) - 97 + 10) := by show _ = _; unfold hexDig lowOf; split <;> (try split) <;> (try split) <;> omega
        have q0 : 97 ≤ lowOf (c.toNat : Int) := by unfold lowOf; split <;> omega
        have q1 : lowOf (c.toNat : Int) ≤ 102 := by unfold lowOf; split <;> omega
        go_wp2_with (go_at_call 227; refine (lower_letter _ (by omega) _).mono ?_; rintro e w' ⟨rfl, rfl⟩)
        refine ⟨⟨k + 1, a * 16 + (lowOf (c.toNat : Int) - 97 + 10), rfl, ?_, ?_, by omega, HV.out _ (by rw [HD.out])⟩, by simp [intOf]; omega⟩
        · first | rfl | (congr 1; omega)
        · first | rfl | (congr 1; omega)
    · have hkk : k = t.size := by omega
      have hF : t.data.toList.take k = t.data.toList := List.take_of_length_le (by rw [HL.out]; omega)
      have HF : Hid (a = (hexVal t.data.toList : Int)) := by rw [hF] at ha; exact ha
      clear hF ha
      go_wp2
      go_ret2
      exact ⟨by rw [HF.out]; rfl, rfl⟩

set_option maxHeartbeats 800000 in
set_option maxRecDepth 100000 in
theorem parseIntIn_hex (t : ByteArray) (w : World) (h1 : 1 ≤ t.size) (h4 : t.size ≤ 4) (hs : Hid (∀ c ∈ t.data.toList, isSignB c.toNat = true)) :
    Calls Tryz.prog 212 #[.string t, .int .i64 16, .int .i64 32] w fun e w' => e = .returned (.tuple #[.int .i64 (hexVal t.data.toList), .nilIface]) ∧ w' = Lib.bytesWorld w 5 t := by
  have hemp : t.toList.isEmpty = false := by
    rw [← decide_eq_emptyBytes]
    exact decide_eq_false (fun h => by rw [h] at h1; exact absurd h1 (by decide))
  have hsg : isSignB (t[0]'(by omega)).toNat = true := by
    refine hs.out _ ?_
    have := List.getElem_mem (l := t.data.toList) (n := 0) (by rw [size_list]; omega)
    exact this
  have hx := hexVal_lt t.data.toList hs.out (by rw [size_list]; exact h4)
  have n43 : ((t[0]'(by omega)).toNat : Int) ≠ 43 := by intro e; rw [show (t[0]'(by omega)).toNat = 43 by omega] at hsg; exact absurd hsg (by decide)
  have n45 : ((t[0]'(by omega)).toNat : Int) ≠ 45 := by intro e; rw [show (t[0]'(by omega)).toNat = 45 by omega] at hsg; exact absurd hsg (by decide)
  clear hsg
  have HP : Hid (Calls Tryz.prog 220 #[.string t, .int .i64 16, .int .i64 32] w fun e w' => e = .returned (.tuple #[.int .u64 (hexVal t.data.toList), .nilIface]) ∧ w' = Lib.bytesWorld w 5 t) := parseUint_hex t w h1 h4 hs
  obtain ⟨y, hy⟩ : ∃ y : Int, y = (hexVal t.data.toList : Int) := ⟨_, rfl⟩
  rw [← hy] at HP ⊢
  have y0 : 0 ≤ y := by omega
  have y1 : y < 65536 := by omega
  clear hy hx
  go_enter Tryz.func212, Tryz.ntmps212
  go_wp2_with fail
  refine HP.out.mono ?_
  rintro e w1 ⟨rfl, rfl⟩
  go_wp2
  go_ret2
  exact ⟨rfl, rfl⟩

set_option maxHeartbeats 800000 in
theorem parse_hex : ParseHex := by
  intro t w h1 h4 hs
  have HP : Hid (Calls Tryz.prog 212 #[.string t, .int .i64 16, .int .i64 32] w fun e w' => e = .returned (.tuple #[.int .i64 (hexVal t.data.toList), .nilIface]) ∧ w' = Lib.bytesWorld w 5 t) := parseIntIn_hex t w h1 h4 hs
  have HU : Hid (Upd (fun _ => False) w (Lib.bytesWorld w 5 t)) := by
    have h1 : Upd (fun _ => False) w (w.drew.alloc (.cells (Lib.bytesCells w 5 t) 5)) := (Upd.refl _ w).drew.alloc _
    refine ⟨h1.os, h1.tape, h1.output, ?_, fun k hk hn => ?_⟩
    · simp [Lib.bytesWorld, World.freeze]
    · rw [← h1.block k hk hn]
      simp only [Lib.bytesWorld, World.freeze]
      rw [if_neg (by omega)]
      show (Array.modify _ _ _)[k]? = _
      rw [Array.getElem?_modify, if_neg (by omega)]
  go_enter Tryz.func200, Tryz.ntmps200
  go_wp2_with fail
  refine HP.out.mono ?_
  rintro e w1 ⟨rfl, hw⟩
  rw [← hw] at HU
  clear hw
  go_wp2
  go_ret2
  exact ⟨rfl, HU.out⟩

end Go.Proofs.YtiiapfkcmdkkoaaGreatDoor
