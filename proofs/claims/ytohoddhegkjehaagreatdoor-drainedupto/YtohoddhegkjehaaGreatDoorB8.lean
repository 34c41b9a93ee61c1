import Derived.Test.YtohoddhegkjehaaGreatDoorB7
/-
  Reader.Read.
-/
namespace Go.Proofs.YtohoddhegkjehaaGreatDoor
open Go.RowKit

/-- A byte is read by a state. -/
def RS.step (σ : RS) (b : UInt8) : RS :=
  match σ.tag with
  | 1 => σ.fields b
  | 2 => σ.counted b
  | _ => σ.piece b
/-- Read: a byte is counted and read. -/
def RS.read (σ : RS) (b : UInt8) : RS :=
  if σ.headOver = false ∧ 200 < σ.count + 1 then ({ σ with count := σ.count + 1 } : RS).failed 3 else ({ σ with count := σ.count + 1 } : RS).step b

/-- The reader in memory. -/
def Rd (F : Nat → Prop) (w : World) (r : Nat) (σ : RS) : Prop := ∃ sv, Rdr F w r σ sv sv

theorem Rd.keep {F M : Nat → Prop} {w w' : World} {r : Nat} {σ : RS} (h : Rd F w r σ) (hu : Upd M w w') (hd : ∀ k, F k → ¬ M k) : Rd F w' r σ := by
  obtain ⟨sv, h⟩ := h
  exact ⟨sv, h.keep hu hd⟩

theorem CloS.keep_r {F : Nat → Prop} {w w' : World} {r : Nat} {σ σ' : RS} {sv : Value} {c : Array Value} (h : CloS F w r σ sv) (hr : w.heap[r]? = some (.cells c 157 (0, 0))) (hu : Upd (fun k => k = r) w w') (e1 : σ'.tag = σ.tag) (e2 : σ'.sz = σ.sz) (e3 : σ'.ph = σ.ph) (e4 : σ'.kept = σ.kept) (e5 : σ'.met = σ.met) : CloS F w' r σ' sv := by
  unfold CloS at h ⊢
  rw [e1, e2, e3, e4, e5]
  split
  · rename_i e; rw [e] at h; exact h
  · rename_i e; rw [e] at h; obtain ⟨q, h1, h2, h3⟩ := h
    exact ⟨q, h1, hu.keep h2 (by intro e; subst e; rw [h2] at hr; simp at hr), h3⟩
  · rename_i e; rw [e] at h; exact h
  · rename_i h0 h1 h2
    split at h
    · rename_i e; exact absurd e h0
    · rename_i e; exact absurd e h1
    · rename_i e; exact absurd e h2
    · obtain ⟨B, e1, e2, e3⟩ := h
      exact ⟨B, e1, e2.keep hu (fun k h1 h2 e => e2.ne hr k h1 h2 e), e3⟩

theorem CloS.form {F : Nat → Prop} {w : World} {r : Nat} {σ : RS} {sv : Value} (h : CloS F w r σ sv) : (sv = .nilFunc ∧ σ.tag = 0) ∨ (∃ fn first cap, sv = .func fn first cap) ∧ σ.tag ≠ 0 := by
  unfold CloS at h
  split at h
  · rename_i e; exact Or.inl ⟨h, e⟩
  · rename_i e; obtain ⟨q, h1, _⟩ := h; exact Or.inr ⟨⟨_, _, _, h1⟩, by omega⟩
  · rename_i e; exact Or.inr ⟨⟨_, _, _, h⟩, by omega⟩
  · rename_i h0 h1 h2; obtain ⟨B, h1, _⟩ := h; exact Or.inr ⟨⟨_, _, _, h1⟩, h0⟩

/-- The next state is stored. -/
theorem made_stored {F : Nat → Prop} {w w1 : World} {r : Nat} {σ : RS} {nv sv : Value} (h : Made F w w1 r σ nv sv) : ∃ F', Rd F' (w1.setCell ⟨r, 0, none⟩ sv) r σ ∧ Upd F w (w1.setCell ⟨r, 0, none⟩ sv) ∧ ∀ k, F' k → F k ∨ (w.heap.size ≤ k ∧ k < (w1.setCell ⟨r, 0, none⟩ sv).heap.size) := by
  obtain ⟨F', ⟨⟨R, hB⟩, hC⟩, hU, hf⟩ := h
  have hu := Upd.one w1 r 0 sv
  refine ⟨F', ⟨sv, ⟨R, hB.upd hu (by have := heap_setCell hB.blk 0 sv; simpa using this) (fun f _ => .same _ _)⟩, hC.keep_r hB.blk hu rfl rfl rfl rfl rfl⟩, ?_, fun k hk => by rw [size_setCell]; exact hf k hk⟩
  refine ⟨hU.os, hU.tape, hU.output, by rw [size_setCell]; exact hU.size, fun k hk hn => (Below.heap_setCell _ _ _ _ ?_).trans (hU.block k hk hn)⟩
  intro e
  have e' : k = r := e
  rw [e'] at hn hk
  rcases hf r hB.fr with h1 | h1
  · exact hn h1
  · omega

/-- A state's function, called with a byte. -/
theorem step_calls (hP : Hid ParseHex) {F : Nat → Prop} {w : World} {r : Nat} {σ : RS} {nv sv : Value} {R : Nat → Value} (h : RdrB F w r σ nv R) (hc : CloS F w r σ sv) (g : Good σ) (h0 : σ.tag ≠ 0) (b : UInt8) :
    ∃ fn first cap, sv = .func (.func fn) first cap ∧ Ent fn ∧ Makes fn (first ++ #[.int .u8 b.toNat] ++ cap) F w r (σ.step b) nv := by
  unfold CloS at hc
  unfold RS.step
  split at hc
  · rename_i e; exact absurd e h0
  · rename_i e; rw [e]; obtain ⟨q, rfl, hq, _⟩ := hc
    exact ⟨_, _, _, rfl, enters_of Tryz.func115 (by kernel_rfl) rfl, fields_makes hP h hq g b⟩
  · rename_i e; rw [e]; subst hc
    exact ⟨_, _, _, rfl, enters_of Tryz.func124 (by kernel_rfl) rfl, readCounted_makes h b (Nat.le_trans (g.size 12 (by simp [IsRow])) (by omega))⟩
  · rename_i e0 e1 e2
    obtain ⟨B, rfl, hclo, hF⟩ := hc
    have e1' : σ.tag ≠ 1 := e1
    have e2' : σ.tag ≠ 2 := e2
    have h3 : 3 ≤ σ.tag := by omega
    refine ⟨_, _, _, rfl, enters_of Tryz.func111 (by kernel_rfl) rfl, ?_⟩
    have := piece_makes hP h hclo hF h3 g b
    split
    · rename_i e; exact absurd e e1
    · rename_i e; exact absurd e e2
    · exact this

set_option maxHeartbeats 800000 in
set_option maxRecDepth 100000 in
theorem read_any (hP : Hid ParseHex) {F : Nat → Prop} {w : World} {r : Nat} {σ : RS} (h : Rd F w r σ) (g : Good σ) (h0 : σ.tag ≠ 0) (hct : σ.count ≤ 1000000000) (b : UInt8) :
    Calls Tryz.prog 105 #[.pointer (some ⟨r, 0, none⟩), .int .u8 b.toNat] w fun e w' => e = .returned (.bool (decide ((σ.read b).tag = 0))) ∧ ∃ F', Rd F' w' r (σ.read b) ∧ Upd F w w' ∧ ∀ k, F' k → F k ∨ (w.heap.size ≤ k ∧ k < w'.heap.size) := by
  obtain ⟨sv, ⟨R, hB⟩, hC⟩ := h
  have c0 : w.cell? ⟨r, 0, none⟩ = some sv := hB.cell 0
  have f0 : w.frozen? ⟨r, 0, none⟩ = false := hB.unfrozen 0
  have c1 : w.cell? ⟨r, 1, none⟩ = some (.int .i64 σ.count) := hB.cell 1
  have f1 : w.frozen? ⟨r, 1, none⟩ = false := hB.unfrozen 1
  have c2 : w.cell? ⟨r, 2, none⟩ = some (.bool σ.headOver) := hB.cell 2
  have hu : Upd (fun k => k = r) w (w.setCell ⟨r, 1, none⟩ (.int .i64 ((σ.count : Int) + 1))) := Upd.one _ _ _ _
  have HU : Hid (Upd F w (w.setCell ⟨r, 1, none⟩ (.int .i64 ((σ.count : Int) + 1)))) := hu.mono (by rintro k _ rfl; exact hB.fr)
  have hB1 : RdrB F (w.setCell ⟨r, 1, none⟩ (.int .i64 ((σ.count : Int) + 1))) r { σ with count := σ.count + 1 } sv R := hB.upd hu (by have := heap_setCell hB.blk 1 (.int .i64 ((σ.count : Int) + 1)); simpa using this) (fun f _ => .same _ _)
  have hC1 : CloS F (w.setCell ⟨r, 1, none⟩ (.int .i64 ((σ.count : Int) + 1))) r { σ with count := σ.count + 1 } sv := hC.keep_r hB.blk hu rfl rfl rfl rfl rfl
  obtain ⟨fn, first, cap, rfl, hent, hmk⟩ := step_calls hP hB1 hC1 ({ g with } : Good { σ with count := σ.count + 1 }) h0 b
  have HB : Hid (RdrB F (w.setCell ⟨r, 1, none⟩ (.int .i64 ((σ.count : Int) + 1))) r { σ with count := σ.count + 1 } (.func (.func fn) first cap) R) := hB1
  have HM : Hid (Makes fn (first ++ #[.int .u8 b.toNat] ++ cap) F (w.setCell ⟨r, 1, none⟩ (.int .i64 ((σ.count : Int) + 1))) r (({ σ with count := σ.count + 1 } : RS).step b) (.func (.func fn) first cap)) := hmk
  clear hB hC hu hB1 hC1 hmk g
  have hfe : ∀ (fn : Fn) (first cap : Array Value) (W : World), (binOp .eql 152 (.func fn first cap) .nilFunc).run Tryz.prog W = .ok (.bool false) W := fun _ _ _ _ => rfl
  have hfn : ∀ (W : World), (binOp .eql 152 .nilFunc .nilFunc).run Tryz.prog W = .ok (.bool true) W := fun _ => rfl
  by_cases ho : σ.headOver = false ∧ 200 < σ.count + 1
  · have HS : Hid (σ.read b = ({ σ with count := σ.count + 1 } : RS).failed 3) := by show _ = _; unfold RS.read; rw [if_pos ho]
    obtain ⟨ho1, ho2⟩ := ho
    rw [ho1] at c2
    clear ho1
    go_enter Tryz.func105, Tryz.ntmps105
    go_wp2_with fail
    refine Calls.mono (fail3_makes HB.out) ?_
    rintro e w2 ⟨sv, rfl, hm⟩
    obtain ⟨F2, ⟨⟨R2, hB2⟩, hC2⟩, hU2, hf2⟩ := id hm
    have d0 : w2.cell? ⟨r, 0, none⟩ = some (.func (.func fn) first cap) := hB2.cell 0
    have g0 : w2.frozen? ⟨r, 0, none⟩ = false := hB2.unfrozen 0
    obtain rfl : sv = .nilFunc := hC2
    have HE : Hid (∃ F', Rd F' (w2.setCell ⟨r, 0, none⟩ .nilFunc) r (({ σ with count := σ.count + 1 } : RS).failed 3) ∧ Upd F w (w2.setCell ⟨r, 0, none⟩ .nilFunc) ∧ ∀ k, F' k → F k ∨ (w.heap.size ≤ k ∧ k < (w2.setCell ⟨r, 0, none⟩ .nilFunc).heap.size)) := made_stored (hm.from HU.out)
    clear hm hB2 hU2 hf2
    go_wp2
    go_ret
    rw [HS.out]
    exact ⟨rfl, HE.out⟩
  · have HS : Hid (σ.read b = ({ σ with count := σ.count + 1 } : RS).step b) := by show _ = _; unfold RS.read; rw [if_neg ho]
    have hcase : σ.headOver = true ∨ (σ.headOver = false ∧ σ.count + 1 ≤ 200) := by
      cases hh : σ.headOver
      · right; exact ⟨rfl, by rw [hh] at ho; simp at ho; omega⟩
      · exact Or.inl rfl
    clear ho
    rcases hcase with hh | ⟨hh, hle⟩
    all_goals
      rw [hh] at c2
      clear hh
      go_enter Tryz.func105, Tryz.ntmps105
      go_wp2_with fail
      refine Calls.mono HM.out ?_
      rintro e w2 ⟨sv, rfl, hm⟩
      obtain ⟨F2, ⟨⟨R2, hB2⟩, hC2⟩, hU2, hf2⟩ := id hm
      have d0 : w2.cell? ⟨r, 0, none⟩ = some (.func (.func fn) first cap) := hB2.cell 0
      have g0 : w2.frozen? ⟨r, 0, none⟩ = false := hB2.unfrozen 0
      have HE : Hid (∃ F', Rd F' (w2.setCell ⟨r, 0, none⟩ sv) r (({ σ with count := σ.count + 1 } : RS).step b) ∧ Upd F w (w2.setCell ⟨r, 0, none⟩ sv) ∧ ∀ k, F' k → F k ∨ (w.heap.size ≤ k ∧ k < (w2.setCell ⟨r, 0, none⟩ sv).heap.size)) := made_stored (hm.from HU.out)
      have hform := hC2.form
      clear hm hB2 hU2 hf2 hC2
      rcases hform with ⟨rfl, ht⟩ | ⟨⟨fn2, first2, cap2, rfl⟩, ht⟩
      · have HT : Hid ((({ σ with count := σ.count + 1 } : RS).step b).tag = 0) := ht
        clear ht
        go_wp2
        go_ret
        rw [HS.out]
        exact ⟨ret_bool (decide_eq_true HT.out).symm, HE.out⟩
      · have HT : Hid ((({ σ with count := σ.count + 1 } : RS).step b).tag ≠ 0) := ht
        clear ht
        go_wp2
        go_ret
        rw [HS.out]
        exact ⟨ret_bool (decide_eq_false HT.out).symm, HE.out⟩

end Go.Proofs.YtohoddhegkjehaaGreatDoor
