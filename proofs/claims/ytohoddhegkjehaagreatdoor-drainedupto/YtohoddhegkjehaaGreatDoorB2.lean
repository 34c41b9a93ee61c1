import Derived.Test.YtohoddhegkjehaaGreatDoorB1
import Derived.Laws.IdiomStrings
import Derived.Laws.BytesArg
/-
  endSigns.
-/
namespace Go.Proofs.YtohoddhegkjehaaGreatDoor
open Go.RowKit

theorem Tryz.und5 : Tryz.prog.underlying 5 = some (.int .u8) := by kernel_rfl
theorem Tryz.und9 : Tryz.prog.underlying 9 = some .string := by kernel_rfl

/-- 'string(b)' of a row of our own. -/
theorem row_string {w : World} {v : Value} {bs : List UInt8} (h : Row w v bs) : (convert 56 9 v).run Tryz.prog w = .ok (.string ⟨bs.toArray⟩) w := by
  rcases h.2 with ⟨rfl, h2⟩ | ⟨g, cap, cur, hv, _, hh, hnc, _, hcs, htake⟩
  · obtain rfl : bs = [] := List.eq_nil_of_length_eq_zero h2
    exact run_convert_bytes_nil (P := Tryz.prog) w 56 5 Tryz.und56 Tryz.und5 0 0 _ Tryz.und9
  · subst hv
    refine run_convert_bytes_back (P := Tryz.prog) w 56 9 5 ⟨g, 0, none⟩ cap bs Tryz.und56 Tryz.und5 Tryz.und9 ?_
    intro j hj
    have := World.ownsRow.cells h (g := g) rfl j (byteV bs[j]) (by simp [hj])
    exact this

theorem row_string' {w W : World} {v : Value} {bs : List UInt8} (h : Row w v bs) (hu : Upd (fun _ => False) w W) : (convert 56 9 v).run Tryz.prog W = .ok (.string ⟨bs.toArray⟩) W := row_string (h.keep hu (fun _ _ h => h))

theorem hexVal_le : ∀ (l : List UInt8) (n : Nat), (∀ c ∈ l, isSignB c.toNat = true) → l.foldl (fun n c => n * 16 + hexDig c) n < (n + 1) * 16 ^ l.length
  | [], n, _ => by simp
  | c :: l, n, h => by
    have hc : isSignB c.toNat = true := h c (by simp)
    have h2 : hexDig c ≤ 15 := by simp [isSignB, isDigB] at hc; unfold hexDig; split <;> (try split) <;> omega
    have h1 := hexVal_le l (n * 16 + hexDig c) (fun c hc => h c (by simp [hc]))
    simp only [List.foldl_cons, List.length_cons, Nat.pow_succ]
    refine Nat.lt_of_lt_of_le h1 ?_
    rw [Nat.mul_comm (16 ^ l.length) 16, ← Nat.mul_assoc]
    exact Nat.mul_le_mul_right _ (by omega)
theorem hexVal_lt (l : List UInt8) (h : ∀ c ∈ l, isSignB c.toNat = true) (h4 : l.length ≤ 4) : hexVal l < 65536 := by
  have := hexVal_le l 0 h
  rw [Nat.zero_add, Nat.one_mul] at this
  exact Nat.lt_of_lt_of_le this (Nat.le_trans (Nat.pow_le_pow_right (by omega) h4) (by decide))

set_option maxHeartbeats 800000 in
set_option maxRecDepth 100000 in
theorem endSigns_makes (hP : Hid ParseHex) {F : Nat → Prop} {w : World} {r : Nat} {σ : RS} {nv : Value} {R : Nat → Value} (h : Hid (RdrB F w r σ nv R)) (h1 : 1 ≤ σ.signs.length) (h4 : σ.signs.length ≤ 4) (hs : Hid (∀ c ∈ σ.signs, isSignB c.toNat = true)) (hb : σ.body.length ≤ 1000000) :
    Makes 128 #[.pointer (some ⟨r, 0, none⟩)] F w r σ.endSigns nv := by
  have hmf : ∀ (fn : Fn) (first cap : Array Value) (w : World), (Instr.makeFunc fn first cap).run Tryz.prog w = .ok (.func fn first cap) w := fun _ _ _ _ => rfl
  have c11 : w.cell? ⟨r, 11, none⟩ = some (R 11) := h.out.cell 11
  have c12 : w.cell? ⟨r, 12, none⟩ = some (R 12) := h.out.cell 12
  have hrl := lt_of_heap h.out.blk
  have hr11 : Row w (R 11) σ.signs := h.out.row 11 (by simp [IsRow])
  have hr12 : Row w (R 12) σ.body := h.out.row 12 (by simp [IsRow])
  obtain ⟨ao, cp, hv⟩ : ∃ ao cp, R 12 = .slice ao σ.body.length cp := by
    rcases hr12.form with ⟨h1, h2⟩ | ⟨g, cap, h1⟩
    · exact ⟨_, _, by rw [h1, h2]; rfl⟩
    · exact ⟨_, _, h1⟩
  rw [hv] at c12
  have hcv := row_string hr11
  generalize hx : R 11 = x at c11 hcv
  have hP' : Hid (Calls Tryz.prog 134 #[.string ⟨σ.signs.toArray⟩, .int .i64 16, .int .i64 32] w fun e w' => e = .returned (.tuple #[.int .i64 (hexVal σ.signs), .nilIface]) ∧ Upd (fun _ => False) w w') := by
    have := hP.out ⟨σ.signs.toArray⟩ w (by rw [← size_list]; simpa using h1) (by rw [← size_list]; simpa using h4) (by simpa using hs.out)
    show Calls _ _ _ _ _
    simpa using this
  have hlt := hexVal_lt σ.signs hs.out h4
  clear hr11 hr12 hv hx
  unfold Makes
  go_enter Tryz.func128, Tryz.ntmps128
  go_wp2_with fail
  refine hP'.out.mono ?_
  rintro e w1 ⟨rfl, hu⟩
  have d12 : w1.cell? ⟨r, 12, none⟩ = some (.slice ao σ.body.length cp) := (hu.cell hrl (fun h => h)).trans c12
  have HB : Hid (RdrB F w1 r σ nv R) := h.out.keep hu (fun _ _ h => h)
  have HU : Hid (Upd F w w1) := hu.mono (fun _ _ h => h.elim)
  clear hu
  by_cases h0 : hexVal σ.signs = 0
  · have HS : Hid (σ.endSigns = σ.fresh 10) := by show _ = _; unfold RS.endSigns; rw [if_pos h0]
    have e0 : ((hexVal σ.signs : Int) == 0) = true := by simp [h0]
    clear h0
    go_wp2_with fail
    refine (exactly_any _ _ _ _ _).mono ?_
    rintro e w2 ⟨rfl, rfl⟩
    go_wp2
    go_ret
    rw [HS.out]
    exact ⟨_, rfl, made_piece HB.out HU.out 10 (by omega)⟩
  have e0 : ((hexVal σ.signs : Int) == 0) = false := by rw [beq_eq_false_iff_ne]; omega
  by_cases h100 : 100 < σ.body.length + hexVal σ.signs
  · have HS : Hid (σ.endSigns = σ.failed 2) := by show _ = _; unfold RS.endSigns; rw [if_neg h0, if_pos h100]
    clear h0
    go_wp2_with fail
    refine Calls.mono (fail2_makes HB.out) ?_
    rintro e w2 ⟨sv, rfl, hm⟩
    have HM : Hid (Made F w w2 r (σ.failed 2) nv sv) := hm.from HU.out
    clear hm
    go_wp2
    go_ret
    rw [HS.out]
    exact ⟨sv, rfl, HM.out⟩
  · have HS : Hid (σ.endSigns = ({ σ with sz := hexVal σ.signs } : RS).fresh 9) := by show _ = _; unfold RS.endSigns; rw [if_neg h0, if_neg h100]
    clear h0
    go_wp2_with fail
    refine (piece_any _ _ _ _ _ _ _ _ _).mono ?_
    rintro e w2 ⟨rfl, rfl⟩
    go_wp2
    go_ret
    rw [HS.out]
    exact ⟨_, rfl, made_piece (σ := { σ with sz := hexVal σ.signs }) ({ HB.out with }) HU.out 9 (by omega)⟩

end Go.Proofs.YtohoddhegkjehaaGreatDoor
