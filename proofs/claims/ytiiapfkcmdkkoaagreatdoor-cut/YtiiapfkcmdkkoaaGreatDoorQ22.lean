import Derived.Test.YtiiapfkcmdkkoaaGreatDoorQ21
/-
  What holds of a reader at all times is kept by every byte.
-/
namespace Go.Proofs.YtiiapfkcmdkkoaaGreatDoor
open Go.RowKit

/-- By the state. n: how many bytes were counted and not read yet. -/
def specAt (n : Nat) (σ : RS) : Prop :=
  match σ.tag with
  | 0 => True
  | 1 => σ.headOver = false ∧ σ.count ≤ 200 ∧ σ.body = []
  | 2 => σ.body.length < σ.length ∧ σ.length ≤ 100 ∧ σ.count ≤ 200 + σ.body.length + n
  | 3 => σ.headOver = false ∧ σ.count ≤ 200 ∧ σ.body = [] ∧ σ.met < 2 ∧ σ.kept = σ.method.length ∧ (σ.ph = 1 → 1 ≤ σ.kept) ∧ σ.path = []
  | 4 => σ.headOver = false ∧ σ.count ≤ 200 ∧ σ.body = [] ∧ σ.met < 11 ∧ σ.kept = σ.path.length
  | 5 => σ.headOver = false ∧ σ.count ≤ 200 ∧ σ.body = [] ∧ σ.met < 1 ∧ σ.kept = σ.name.length ∧ (σ.ph = 1 → 1 ≤ σ.kept) ∧ σ.value = []
  | 6 => σ.headOver = false ∧ σ.count ≤ 200 ∧ σ.body = [] ∧ σ.met < 2 ∧ σ.kept = σ.value.length
  | 7 => σ.headOver = false ∧ σ.count ≤ 200 ∧ σ.body = [] ∧ σ.met < 1 ∧ σ.kept = 0
  | 8 => σ.met < 2 ∧ σ.kept = σ.signs.length ∧ (σ.ph = 1 → 1 ≤ σ.kept) ∧ σ.count ≤ 200 + 9 * σ.body.length + σ.kept + σ.met + n
  | 9 => σ.met < 2 ∧ (1 ≤ σ.sz ∧ σ.sz ≤ 100) ∧ σ.kept ≤ σ.sz ∧ (σ.ph = 1 → σ.sz ≤ σ.kept) ∧ σ.body.length + σ.sz ≤ 100 + σ.kept ∧ σ.count + 8 * σ.kept ≤ 206 + 9 * σ.body.length + σ.met + n
  | 10 => σ.met < 2 ∧ σ.kept = 0 ∧ σ.count ≤ 206 + 9 * σ.body.length + σ.met + n
  | _ => False

structure RInv (n : Nat) (σ : RS) : Prop where
  ph : σ.ph ≤ 1
  lens : σ.method.length ≤ 8 ∧ σ.path.length ≤ 30 ∧ σ.name.length ≤ 20 ∧ σ.value.length ≤ 200 ∧ σ.signs.length ≤ 4 ∧ σ.body.length ≤ 100
  name : ∀ c ∈ σ.name, isNameB c.toNat = true
  value : ∀ c ∈ σ.value, isValB c.toNat = true
  signs : ∀ c ∈ σ.signs, isSignB c.toNat = true
  len : σ.length ≤ 1000000000
  spec : specAt n σ

theorem endOf_size {t : Nat} : (endOf t).size = match t with | 3 => 2 | 4 => 11 | 5 => 1 | 7 => 1 | _ => 2 := by
  by_cases h3 : t = 3
  · subst h3; rfl
  by_cases h4 : t = 4
  · subst h4; rfl
  by_cases h5 : t = 5
  · subst h5; rfl
  by_cases h7 : t = 7
  · subst h7; rfl
  have e : endOf t = ⟨#[13, 10]⟩ := by unfold endOf; split <;> first | rfl | (exfalso; omega)
  rw [e]
  split <;> first | rfl | (exfalso; omega)

theorem RInv.tags {n : Nat} {σ : RS} (h : RInv n σ) : σ.tag ≤ 10 := by
  have := h.spec
  unfold specAt at this
  split at this <;> first | omega | exact this.elim

theorem RInv.good {n : Nat} {σ : RS} (h : RInv n σ) : Good σ := by
  obtain ⟨l1, l2, l3, l4, l5, l6⟩ := h.lens
  have hs := h.spec
  have ht := h.tags
  refine { tag := ht, met := ?_, ph := h.ph, kept := ?_, least := ?_, size := ?_, room := ?_, name := h.name, value := h.value, signs := h.signs, four := l5, got := ?_, len := h.len }
  · intro h3
    rw [endOf_size]
    rcases Go.Proofs.YtiiapfkcmdkkoaaGreatDoor.tags h3 ht with e | e | e | e | e | e | e | e <;> (unfold specAt at hs; rw [e] at hs ⊢; simp only at hs ⊢; omega)
  · intro h3
    rcases Go.Proofs.YtiiapfkcmdkkoaaGreatDoor.tags h3 ht with e | e | e | e | e | e | e | e <;> (unfold specAt at hs; rw [e] at hs ⊢; simp only at hs; simp [mostOf]; omega)
  · intro h3 hp
    rcases Go.Proofs.YtiiapfkcmdkkoaaGreatDoor.tags h3 ht with e | e | e | e | e | e | e | e <;> (unfold specAt at hs; rw [e] at hs ⊢; simp only at hs; simp [leastOf]; try omega)
  · rintro f (rfl | rfl | rfl | rfl | rfl | rfl) <;> simp only [RS.get] <;> omega
  · intro h3
    rcases Go.Proofs.YtiiapfkcmdkkoaaGreatDoor.tags h3 ht with e | e | e | e | e | e | e | e <;> (unfold specAt at hs; rw [e] at hs ⊢; simp only at hs; simp [mostOf]; try omega)
  · intro e
    unfold specAt at hs; rw [e] at hs; simp only at hs; omega

theorem RInv.failed {n k : Nat} {σ : RS} (h : RInv n σ) (f : Nat) : RInv k (σ.failed f) :=
  ⟨h.ph, h.lens, h.name, h.value, h.signs, h.len, trivial⟩

theorem says_len (l : List UInt8) : (lengthSays l).2 ≤ 1000000000 := by
  unfold lengthSays
  split
  · simp
  · split
    · rename_i h1 h2
      have := decVal_lt l h2
      have h3 : (10 : Nat) ^ l.length ≤ 10 ^ 9 := Nat.pow_le_pow_right (by omega) (by omega)
      show decVal l ≤ _
      omega
    · simp
theorem says_coding (l : List UInt8) : (codingSays l).2 ≤ 1000000000 := by
  unfold codingSays
  split <;> simp

theorem RInv.tell {n : Nat} {σ : RS} (h : RInv n σ) (p : Nat × Nat) (hp : p.2 ≤ 1000000000) (ht : σ.headOver = false ∧ σ.count ≤ 200 ∧ σ.body = []) : RInv 0 { σ.tell p with tag := 1 } := by
  refine ⟨h.ph, h.lens, h.name, h.value, h.signs, ?_, ht⟩
  show (if σ.kind = 0 then p.2 else 0) ≤ _
  split <;> omega

theorem RInv.endField {n : Nat} {σ : RS} (h : RInv n σ) (ht : σ.headOver = false ∧ σ.count ≤ 200 ∧ σ.body = []) : RInv 0 σ.endField := by
  unfold RS.endField
  split
  · exact h.tell _ (says_len _) ht
  · split
    · exact h.tell _ (says_coding _) ht
    · split
      · exact ⟨h.ph, h.lens, h.name, h.value, h.signs, h.len, ht⟩
      · exact ⟨h.ph, h.lens, h.name, h.value, h.signs, h.len, ht⟩

theorem RInv.endHead {n : Nat} {σ : RS} (h : RInv n σ) (ht : σ.headOver = false ∧ σ.count ≤ 200 ∧ σ.body = []) : RInv 0 σ.endHead := by
  obtain ⟨l1, l2, l3, l4, l5, l6⟩ := h.lens
  obtain ⟨t1, t2, t3⟩ := ht
  have hb : σ.body.length = 0 := by rw [t3]; rfl
  have nn : ∀ c ∈ ([] : List UInt8), isNameB c.toNat = true := by simp
  have nv : ∀ c ∈ ([] : List UInt8), isValB c.toNat = true := by simp
  have ns : ∀ c ∈ ([] : List UInt8), isSignB c.toNat = true := by simp
  unfold RS.endHead RS.readBody
  split
  · exact ⟨h.ph, ⟨l1, l2, Nat.zero_le _, Nat.zero_le _, l5, l6⟩, nn, nv, h.signs, h.len, trivial⟩
  · split
    · exact ⟨by show 0 ≤ 1; omega, ⟨l1, l2, Nat.zero_le _, Nat.zero_le _, Nat.zero_le _, l6⟩, nn, nv, ns, h.len, by show 0 < 2 ∧ 0 = 0 ∧ (0 = 1 → 1 ≤ 0) ∧ σ.count ≤ 200 + 9 * σ.body.length + 0 + 0 + 0; omega⟩
    · split
      · exact ⟨h.ph, ⟨l1, l2, Nat.zero_le _, Nat.zero_le _, l5, l6⟩, nn, nv, h.signs, h.len, trivial⟩
      · split
        · rename_i h1 h2
          exact ⟨h.ph, ⟨l1, l2, Nat.zero_le _, Nat.zero_le _, l5, l6⟩, nn, nv, h.signs, h.len, by have h1' : ¬ 100 < σ.length := h1; have h2' : 0 < σ.length := h2; show σ.body.length < σ.length ∧ σ.length ≤ 100 ∧ σ.count ≤ 200 + σ.body.length + 0; omega⟩
        · exact ⟨h.ph, ⟨l1, l2, Nat.zero_le _, Nat.zero_le _, l5, l6⟩, nn, nv, h.signs, h.len, trivial⟩

theorem RInv.endSigns {σ : RS} (h : RInv 1 σ) (hc : σ.count ≤ 206 + 9 * σ.body.length) : RInv 0 σ.endSigns := by
  unfold RS.endSigns
  split
  · exact ⟨by show 0 ≤ 1; omega, h.lens, h.name, h.value, h.signs, h.len, by show 0 < 2 ∧ 0 = 0 ∧ σ.count ≤ 206 + 9 * σ.body.length + 0 + 0; omega⟩
  · split
    · exact h.failed _
    · rename_i h1 h2
      exact ⟨by show 0 ≤ 1; omega, h.lens, h.name, h.value, h.signs, h.len, by show 0 < 2 ∧ (1 ≤ hexVal σ.signs ∧ hexVal σ.signs ≤ 100) ∧ 0 ≤ hexVal σ.signs ∧ (0 = 1 → hexVal σ.signs ≤ 0) ∧ σ.body.length + hexVal σ.signs ≤ 100 + 0 ∧ σ.count + 8 * 0 ≤ 206 + 9 * σ.body.length + 0 + 0; omega⟩

/-- The run is over, and its ending too. -/
theorem RInv.next {σ : RS} (h : RInv 1 σ) (h3 : 3 ≤ σ.tag) (hl : leastOf σ.tag σ.sz ≤ σ.kept) : RInv 0 σ.next := by
  have hs := h.spec
  unfold specAt at hs
  unfold RS.next
  rcases Go.Proofs.YtiiapfkcmdkkoaaGreatDoor.tags h3 h.tags with e | e | e | e | e | e | e | e <;> (rw [e] at hs ⊢; rw [e] at hl; simp only at hs ⊢)
  · obtain ⟨t1, t2, t3, t4, t5, t6, t7⟩ := hs
    exact ⟨by show 0 ≤ 1; omega, h.lens, h.name, h.value, h.signs, h.len, t1, t2, t3, by show 0 < 11; omega, by show 0 = σ.path.length; rw [t7]; rfl⟩
  · exact ⟨h.ph, h.lens, h.name, h.value, h.signs, h.len, hs.1, hs.2.1, hs.2.2.1⟩
  · obtain ⟨t1, t2, t3, t4, t5, t6, t7⟩ := hs
    exact ⟨by show 0 ≤ 1; omega, h.lens, h.name, h.value, h.signs, h.len, t1, t2, t3, by show 0 < 2; omega, by show 0 = σ.value.length; rw [t7]; rfl⟩
  · exact h.endField ⟨hs.1, hs.2.1, hs.2.2.1⟩
  · exact h.endHead ⟨hs.1, hs.2.1, hs.2.2.1⟩
  · have := h.lens
    exact h.endSigns (by omega)
  · obtain ⟨l1, l2, l3, l4, l5, l6⟩ := h.lens
    have hl' : σ.sz ≤ σ.kept := hl
    exact ⟨by show 0 ≤ 1; omega, ⟨l1, l2, l3, l4, by simp [RS.fresh], l6⟩, h.name, h.value, by simp [RS.fresh], h.len, by show 0 < 2 ∧ 0 = 0 ∧ (0 = 1 → 1 ≤ 0) ∧ σ.count ≤ 200 + 9 * σ.body.length + 0 + 0 + 0; omega⟩
  · exact ⟨h.ph, h.lens, h.name, h.value, h.signs, h.len, trivial⟩

/-- A byte behind the run. -/
theorem RInv.ending {σ : RS} (h : RInv 1 σ) (h3 : 3 ≤ σ.tag) (hl : leastOf σ.tag σ.sz ≤ σ.kept) (b : UInt8) : RInv 0 (σ.ending b) := by
  have hs := h.spec
  unfold RS.ending
  split
  · split
    · rename_i h1 h2
      rw [endOf_size] at h2
      refine ⟨by show 1 ≤ 1; omega, h.lens, h.name, h.value, h.signs, h.len, ?_⟩
      unfold specAt at hs ⊢
      rcases Go.Proofs.YtiiapfkcmdkkoaaGreatDoor.tags h3 h.tags with e | e | e | e | e | e | e | e <;> (rw [e] at hs h2 hl; simp only [leastOf] at hs h2 hl ⊢; rw [e]; simp only)
      · exact ⟨hs.1, hs.2.1, hs.2.2.1, by omega, hs.2.2.2.2.1, fun _ => hl, hs.2.2.2.2.2.2⟩
      · exact ⟨hs.1, hs.2.1, hs.2.2.1, by omega, hs.2.2.2.2⟩
      · omega
      · exact ⟨hs.1, hs.2.1, hs.2.2.1, by omega, hs.2.2.2.2⟩
      · omega
      all_goals omega
    · exact h.next h3 hl
  · exact h.failed _

end Go.Proofs.YtiiapfkcmdkkoaaGreatDoor

/-
  ... kept by every byte: the reader as a whole.
-/
namespace Go.Proofs.YtiiapfkcmdkkoaaGreatDoor
open Go.RowKit

theorem mem_snoc {p : UInt8 → Prop} {l : List UInt8} {b : UInt8} (h : ∀ c ∈ l, p c) (hb : p b) : ∀ c ∈ l ++ [b], p c := by
  intro c hc
  rcases List.mem_append.1 hc with h1 | h1
  · exact h c h1
  · simp at h1; exact h1 ▸ hb
theorem len_snoc (l : List UInt8) (b : UInt8) : (l ++ [b]).length = l.length + 1 := by simp

/-- A byte of the run. -/
theorem RInv.keeps {σ : RS} (h : RInv 1 σ) (h3 : 3 ≤ σ.tag) (b : UInt8) (hph : σ.ph = 0) (k1 : σ.kept < mostOf σ.tag σ.sz) (k2 : clsOf σ.tag b = true) : RInv 0 { σ.push (fldOf σ.tag) b with kept := σ.kept + 1 } := by
  have hs := h.spec
  obtain ⟨l1, l2, l3, l4, l5, l6⟩ := h.lens
  obtain ⟨g1, _, g3, g4, g5, g6, _⟩ := h
  have ht : σ.tag ≤ 10 := RInv.tags ⟨g1, ⟨l1, l2, l3, l4, l5, l6⟩, g3, g4, g5, g6, hs⟩
  obtain ⟨tag, sz, ph, kept, met, count, headOver, fault, method, path, name, value, close, kind, length, signs, body⟩ := σ
  dsimp only at h3 ht hph k1 k2 hs l1 l2 l3 l4 l5 l6 g1 g3 g4 g5 g6 ⊢
  subst hph
  rcases Go.Proofs.YtiiapfkcmdkkoaaGreatDoor.tags h3 ht with rfl | rfl | rfl | rfl | rfl | rfl | rfl | rfl
  · obtain ⟨t1, t2, t3, t4, t5, t6, t7⟩ := hs
    have k1' : kept < 8 := k1
    dsimp only at t1 t2 t3 t4 t5 t6 t7
    refine ⟨Nat.zero_le _, ⟨?_, l2, l3, l4, l5, l6⟩, g3, g4, g5, g6, t1, t2, t3, t4, ?_, ?_, t7⟩
    · show (method ++ [b]).length ≤ 8; rw [len_snoc]; omega
    · show kept + 1 = (method ++ [b]).length; rw [len_snoc]; omega
    · intro _; show 1 ≤ kept + 1; omega
  · obtain ⟨t1, t2, t3, t4, t5⟩ := hs
    have k1' : kept < 30 := k1
    dsimp only at t1 t2 t3 t4 t5
    refine ⟨Nat.zero_le _, ⟨l1, ?_, l3, l4, l5, l6⟩, g3, g4, g5, g6, t1, t2, t3, t4, ?_⟩
    · show (path ++ [b]).length ≤ 30; rw [len_snoc]; omega
    · show kept + 1 = (path ++ [b]).length; rw [len_snoc]; omega
  · obtain ⟨t1, t2, t3, t4, t5, t6, t7⟩ := hs
    have k1' : kept < 20 := k1
    dsimp only at t1 t2 t3 t4 t5 t6 t7
    refine ⟨Nat.zero_le _, ⟨l1, l2, ?_, l4, l5, l6⟩, mem_snoc g3 k2, g4, g5, g6, t1, t2, t3, t4, ?_, ?_, t7⟩
    · show (name ++ [b]).length ≤ 20; rw [len_snoc]; omega
    · show kept + 1 = (name ++ [b]).length; rw [len_snoc]; omega
    · intro _; show 1 ≤ kept + 1; omega
  · obtain ⟨t1, t2, t3, t4, t5⟩ := hs
    have k1' : kept < 200 := k1
    dsimp only at t1 t2 t3 t4 t5
    refine ⟨Nat.zero_le _, ⟨l1, l2, l3, ?_, l5, l6⟩, g3, mem_snoc g4 k2, g5, g6, t1, t2, t3, t4, ?_⟩
    · show (value ++ [b]).length ≤ 200; rw [len_snoc]; omega
    · show kept + 1 = (value ++ [b]).length; rw [len_snoc]; omega
  · have k1' : kept < 0 := k1
    omega
  · obtain ⟨t1, t2, t3, t4⟩ := hs
    have k1' : kept < 4 := k1
    dsimp only at t1 t2 t3 t4
    refine ⟨Nat.zero_le _, ⟨l1, l2, l3, l4, ?_, l6⟩, g3, g4, mem_snoc g5 k2, g6, t1, ?_, ?_, ?_⟩
    · show (signs ++ [b]).length ≤ 4; rw [len_snoc]; omega
    · show kept + 1 = (signs ++ [b]).length; rw [len_snoc]; omega
    · intro _; show 1 ≤ kept + 1; omega
    · show count ≤ 200 + 9 * body.length + (kept + 1) + met + 0; omega
  · obtain ⟨t1, t2, t3, t4, t5, t6⟩ := hs
    have k1' : kept < sz := k1
    dsimp only at t1 t2 t3 t4 t5 t6
    refine ⟨Nat.zero_le _, ⟨l1, l2, l3, l4, l5, ?_⟩, g3, g4, g5, g6, t1, t2, ?_, ?_, ?_, ?_⟩
    · show (body ++ [b]).length ≤ 100; rw [len_snoc]; omega
    · show kept + 1 ≤ sz; omega
    · intro h1; exact absurd h1 (by show ¬ (0 : Nat) = 1; omega)
    · show (body ++ [b]).length + sz ≤ 100 + (kept + 1); rw [len_snoc]; omega
    · show count + 8 * (kept + 1) ≤ 206 + 9 * (body ++ [b]).length + met + 0; rw [len_snoc]; omega
  · have k1' : kept < 0 := k1
    omega

theorem RInv.piece {σ : RS} (h : RInv 1 σ) (h3 : 3 ≤ σ.tag) (b : UInt8) : RInv 0 (σ.piece b) := by
  have hp := h.ph
  unfold RS.piece
  split
  · rename_i hph
    split
    · rename_i hk
      exact h.keeps h3 b hph hk.1 hk.2
    · split
      · exact h.failed _
      · rename_i hl; exact h.ending h3 (by omega) b
  · rename_i hph
    exact h.ending h3 (h.good.least h3 (by omega)) b

theorem RInv.fields {σ : RS} (h : RInv 1 σ) (ht : σ.tag = 1) (b : UInt8) : RInv 0 (σ.fields b) := by
  have hs := h.spec
  unfold specAt at hs
  rw [ht] at hs
  obtain ⟨l1, l2, l3, l4, l5, l6⟩ := h.lens
  unfold RS.fields
  split
  · exact ⟨Nat.zero_le _, h.lens, h.name, h.value, h.signs, h.len, hs.1, hs.2.1, hs.2.2, by show 0 < 1; omega, rfl⟩
  · refine RInv.piece (σ := ({ σ with name := [], value := [] } : RS).fresh 5) ⟨Nat.zero_le _, ⟨l1, l2, Nat.zero_le _, Nat.zero_le _, l5, l6⟩, by simp [RS.fresh], by simp [RS.fresh], h.signs, h.len, hs.1, hs.2.1, hs.2.2, by show 0 < 1; omega, rfl, ?_, rfl⟩ (by show 3 ≤ 5; omega) b
    intro h1; exact absurd h1 (by show ¬ (0 : Nat) = 1; omega)

theorem RInv.counted {σ : RS} (h : RInv 1 σ) (ht : σ.tag = 2) (b : UInt8) : RInv 0 (σ.counted b) := by
  have hs := h.spec
  unfold specAt at hs
  rw [ht] at hs
  obtain ⟨l1, l2, l3, l4, l5, l6⟩ := h.lens
  obtain ⟨s1, s2, s3⟩ : σ.body.length < σ.length ∧ σ.length ≤ 100 ∧ σ.count ≤ 200 + σ.body.length + 1 := hs
  have hb : (σ.body ++ [b]).length ≤ 100 := by rw [len_snoc]; omega
  unfold RS.counted
  split
  · exact ⟨h.ph, ⟨l1, l2, l3, l4, l5, hb⟩, h.name, h.value, h.signs, h.len, by show (σ.body ++ [b]).length < σ.length ∧ σ.length ≤ 100 ∧ σ.count ≤ 200 + (σ.body ++ [b]).length + 0; rw [len_snoc]; omega⟩
  · exact ⟨h.ph, ⟨l1, l2, l3, l4, l5, hb⟩, h.name, h.value, h.signs, h.len, trivial⟩

theorem RInv.step {σ : RS} (h : RInv 1 σ) (h0 : σ.tag ≠ 0) (b : UInt8) : RInv 0 (σ.step b) := by
  unfold RS.step
  split
  · rename_i e; exact h.fields e b
  · rename_i e; exact h.counted e b
  · rename_i h1 h2
    have h1' : σ.tag ≠ 1 := h1
    have h2' : σ.tag ≠ 2 := h2
    exact h.piece (by omega) b

/-- Read. -/
theorem RInv.read {σ : RS} (h : RInv 0 σ) (h0 : σ.tag ≠ 0) (b : UInt8) : RInv 0 (σ.read b) := by
  have hs := h.spec
  have hlen := h.lens
  unfold RS.read
  split
  · exact ⟨h.ph, h.lens, h.name, h.value, h.signs, h.len, trivial⟩
  · rename_i hc
    refine RInv.step (σ := { σ with count := σ.count + 1 }) ⟨h.ph, h.lens, h.name, h.value, h.signs, h.len, ?_⟩ h0 b
    have ht := h.tags
    obtain ⟨tag, sz, ph, kept, met, count, headOver, fault, method, path, name, value, close, kind, length, signs, body⟩ := σ
    dsimp only at h0 ht hc
    have hcc : headOver = false → count + 1 ≤ 200 := fun e => by
      rcases Nat.lt_or_ge 200 (count + 1) with h1 | h1
      · exact absurd ⟨e, h1⟩ hc
      · exact h1
    clear hc
    obtain e | e | h3 : tag = 1 ∨ tag = 2 ∨ 3 ≤ tag := by omega
    · subst e; exact ⟨hs.1, hcc hs.1, hs.2.2⟩
    · subst e
      obtain ⟨s1, s2, s3⟩ := hs
      exact ⟨s1, s2, by dsimp only at s3 ⊢; omega⟩
    · rcases Go.Proofs.YtiiapfkcmdkkoaaGreatDoor.tags h3 ht with rfl | rfl | rfl | rfl | rfl | rfl | rfl | rfl
      · exact ⟨hs.1, hcc hs.1, hs.2.2⟩
      · exact ⟨hs.1, hcc hs.1, hs.2.2⟩
      · exact ⟨hs.1, hcc hs.1, hs.2.2⟩
      · exact ⟨hs.1, hcc hs.1, hs.2.2⟩
      · exact ⟨hs.1, hcc hs.1, hs.2.2⟩
      · obtain ⟨s1, s2, s3, s4⟩ := hs
        exact ⟨s1, s2, s3, by dsimp only at s4 ⊢; omega⟩
      · obtain ⟨s1, s2, s3, s4, s5, s6⟩ := hs
        exact ⟨s1, s2, s3, s4, s5, by dsimp only at s6 ⊢; omega⟩
      · obtain ⟨s1, s2, s3⟩ := hs
        exact ⟨s1, s2, by dsimp only at s3 ⊢; omega⟩

theorem RInv.start : RInv 0 RS.start := by
  refine ⟨by decide, by decide, ?_, ?_, ?_, by decide, ?_⟩
  · intro c hc; cases hc
  · intro c hc; cases hc
  · intro c hc; cases hc
  · exact ⟨rfl, by decide, rfl, by decide, rfl, fun h => absurd h (by decide), rfl⟩

theorem RInv.count {σ : RS} (h : RInv 0 σ) (h0 : σ.tag ≠ 0) : σ.count ≤ 2000 := by
  have hs := h.spec
  have ht := h.tags
  have hl := h.lens
  obtain ⟨tag, sz, ph, kept, met, count, headOver, fault, method, path, name, value, close, kind, length, signs, body⟩ := σ
  dsimp only at h0 ht hl
  obtain e | e | h3 : tag = 1 ∨ tag = 2 ∨ 3 ≤ tag := by omega
  · subst e; have := hs.2.1; dsimp only at this ⊢; omega
  · subst e; have := hs.2.2; dsimp only at this ⊢; omega
  · rcases Go.Proofs.YtiiapfkcmdkkoaaGreatDoor.tags h3 ht with rfl | rfl | rfl | rfl | rfl | rfl | rfl | rfl
    · exact Nat.le_trans hs.2.1 (by omega)
    · exact Nat.le_trans hs.2.1 (by omega)
    · exact Nat.le_trans hs.2.1 (by omega)
    · exact Nat.le_trans hs.2.1 (by omega)
    · exact Nat.le_trans hs.2.1 (by omega)
    · obtain ⟨s1, s2, s3, s4⟩ := hs
      dsimp only at s1 s2 s3 s4 ⊢; omega
    · obtain ⟨s1, s2, s3, s4, s5, s6⟩ := hs
      dsimp only at s1 s2 s3 s4 s5 s6 ⊢; omega
    · obtain ⟨s1, s2, s3⟩ := hs
      dsimp only at s1 s2 s3 ⊢; omega

end Go.Proofs.YtiiapfkcmdkkoaaGreatDoor

/-
  What holds of the texts at all times; reading a byte, at any time.
-/
namespace Go.Proofs.YtiiapfkcmdkkoaaGreatDoor
open Go.RowKit Go.MapKept

theorem aidx_cons (p : List UInt8 × List UInt8) (L : Texts) (a : List UInt8) : aidx (p :: L) a = if p.1 == a then 0 else aidx L a + 1 := by
  unfold aidx
  rw [List.findIdx_cons]
  cases p.1 == a <;> rfl
theorem aget_cons (p : List UInt8 × List UInt8) (L : Texts) (a : List UInt8) : aget (p :: L) a = if p.1 == a then some p.2 else aget L a := by
  unfold aget
  rw [aidx_cons]
  cases p.1 == a <;> simp
theorem aput_cons (p : List UInt8 × List UInt8) (L : Texts) (a x : List UInt8) : aput (p :: L) a x = if p.1 == a then (a, x) :: L else p :: aput L a x := by
  unfold aput
  rw [aidx_cons]
  cases p.1 == a
  · simp only [Bool.false_eq_true, if_false, List.length_cons, Nat.add_lt_add_iff_right]
    split <;> simp
  · simp
theorem adel_cons (p : List UInt8 × List UInt8) (L : Texts) (a : List UInt8) : adel (p :: L) a = if p.1 == a then L else p :: adel L a := by
  unfold adel
  rw [aidx_cons]
  cases p.1 == a <;> simp

def total : Texts → Int
  | [] => 0
  | p :: L => (p.1.length : Int) + p.2.length + total L

theorem total_put : ∀ (L : Texts) (a x : List UInt8), total (aput L a x) = total L - takenOf L a + a.length + x.length
  | [], a, x => by simp [aput, aidx, total, takenOf, aget]
  | p :: L, a, x => by
    have ih := total_put L a x
    unfold takenOf at ih ⊢
    rw [aput_cons, aget_cons]
    cases h : p.1 == a
    · simp only [Bool.false_eq_true, if_false, total]
      rw [ih]; omega
    · have e : p.1 = a := by simpa using h
      simp only [if_true, total]
      rw [e]; omega
theorem total_del : ∀ (L : Texts) (a : List UInt8), total (adel L a) = total L - takenOf L a
  | [], a => by simp [adel, total, takenOf, aget]
  | p :: L, a => by
    have ih := total_del L a
    unfold takenOf at ih ⊢
    rw [adel_cons, aget_cons]
    cases h : p.1 == a
    · simp only [Bool.false_eq_true, if_false, total]
      rw [ih]; omega
    · have e : p.1 = a := by simpa using h
      simp only [if_true, total]
      rw [e]; omega
theorem total_nonneg : ∀ (L : Texts), 0 ≤ total L
  | [] => by simp [total]
  | p :: L => by have := total_nonneg L; simp only [total]; omega

/-- What holds of the texts at all times. -/
structure TInv (L : Texts) (u : Int) : Prop where
  short : ∀ p ∈ L, p.2.length ≤ 100
  sum : u = total L
  most : u ≤ 400

theorem TInv.nil : TInv [] 0 := ⟨by simp, rfl, by omega⟩
theorem TInv.low {L : Texts} {u : Int} (h : TInv L u) : 0 ≤ u := by rw [h.sum]; exact total_nonneg L
theorem mem_aput {L : Texts} {a x : List UInt8} : ∀ p ∈ aput L a x, p = (a, x) ∨ p ∈ L := by
  intro p hp
  unfold aput at hp
  split at hp
  · rcases List.mem_or_eq_of_mem_set hp with h | h
    · exact Or.inr h
    · exact Or.inl h
  · rcases List.mem_append.1 hp with h | h
    · exact Or.inr h
    · exact Or.inl (by simpa using h)
theorem takenOf_nonneg (L : Texts) (a : List UInt8) : 0 ≤ takenOf L a := by unfold takenOf; split <;> omega

theorem TInv.reply {L : Texts} {u : Int} (h : TInv L u) (q : Req) (hq : q.body.length ≤ 100) : TInv (replyL L u q) (replyU L u q) := by
  unfold replyL replyU serveL serveU putL putU
  by_cases h0 : q.fault = 0
  · rw [if_pos h0, if_pos h0]
    by_cases h1 : q.method = mGet
    · rw [if_pos h1, if_pos h1]; exact h
    rw [if_neg h1, if_neg h1]
    by_cases h2 : q.method = mHead
    · rw [if_pos h2, if_pos h2]; exact h
    rw [if_neg h2, if_neg h2]
    by_cases h3 : q.method = mPut
    · rw [if_pos h3, if_pos h3]
      by_cases h4 : usedWith L u q.target q.body ≤ 400
      · rw [if_pos h4, if_pos h4]
        refine ⟨fun p hp => ?_, ?_, h4⟩
        · rcases mem_aput p hp with rfl | h5
          · exact hq
          · exact h.short p h5
        · rw [total_put]; unfold usedWith; rw [h.sum]
      · rw [if_neg h4, if_neg h4]; exact h
    rw [if_neg h3, if_neg h3]
    by_cases h4 : q.method = mDel
    · rw [if_pos h4, if_pos h4]
      refine ⟨fun p hp => h.short p ((List.eraseIdx_sublist _ _).subset hp), ?_, ?_⟩
      · rw [total_del, h.sum]
      · have := takenOf_nonneg L q.target; have := h.most; omega
    · rw [if_neg h4, if_neg h4]; exact h
  · rw [if_neg h0, if_neg h0]; exact h

theorem aget_short {L : Texts} (h : ∀ p ∈ L, p.2.length ≤ 100) {a x : List UInt8} (e : aget L a = some x) : x.length ≤ 100 := by
  unfold aget at e
  obtain ⟨p, hp, rfl⟩ := Option.map_eq_some_iff.1 e
  exact h p (List.mem_of_getElem? hp)

def Ans.Small (a : Ans) : Prop := a.status.length ≤ 100 ∧ a.length ≤ 100 ∧ a.text.length ≤ 100

theorem small_get {L : Texts} (h : ∀ p ∈ L, p.2.length ≤ 100) (t : List UInt8) : (getAns L t).Small := by
  unfold getAns
  split
  · rename_i x e
    have := aget_short h e
    exact ⟨by show st200.length ≤ 100; decide, this, this⟩
  · exact ⟨by decide, by decide, by decide⟩

theorem TInv.small {L : Texts} {u : Int} (h : TInv L u) (dr : Bool) (q : Req) : (replyAns L u dr q).Small := by
  unfold replyAns
  split
  · show (serveAns L u q).Small
    unfold serveAns putAns delAns
    have hg := small_get h.short q.target
    repeat' split
    all_goals first | exact hg | exact ⟨hg.1, hg.2.1, Nat.zero_le _⟩ | exact ⟨by decide, by decide, by decide⟩
  · unfold faultSt
    refine ⟨?_, Nat.zero_le _, Nat.zero_le _⟩
    show (if q.fault = 2 then st413 else if q.fault = 3 then st431 else st400).length ≤ 100
    repeat' split
    all_goals decide

/-- What holds of a connection at all times. -/
structure CInv (x : CX) : Prop where
  rd : RInv 0 x.σ
  tag : x.σ.tag ≠ 0
  kind : x.kind ≤ 2

theorem CInv.ofRd {x : CX} (h : CInv x) : RInv 0 x.rd ∧ x.rd.tag ≠ 0 := by
  unfold CX.rd
  split
  · exact ⟨RInv.start, by decide⟩
  · exact ⟨h.rd, h.tag⟩
theorem CInv.read {x : CX} (h : CInv x) (b : UInt8) : RInv 0 (x.rd.read b) := h.ofRd.1.read h.ofRd.2 b
theorem CInv.next {x : CX} (h : CInv x) (L : Texts) (u : Int) (dr : Bool) (b : UInt8) : CInv (x.next L u dr b) := by
  unfold CX.next
  split
  · exact ⟨h.rd, h.tag, by show (if _ then 2 else 0) ≤ 2; split <;> omega⟩
  · rename_i h1
    exact ⟨h.read b, h1, by show 1 ≤ 2; omega⟩
theorem next_unread {x : CX} (L : Texts) (u : Int) (dr : Bool) (b : UInt8) : (x.next L u dr b).unread = x.unread := by
  unfold CX.next
  split <;> rfl
theorem CInv.nextT {x : CX} (h : CInv x) {L : Texts} {u : Int} (ht : TInv L u) (b : UInt8) : TInv (x.nextL L u b) (x.nextU L u b) := by
  unfold CX.nextL CX.nextU
  by_cases e : (x.rd.read b).tag = 0
  · rw [if_pos e, if_pos e]
    exact ht.reply _ (h.read b).lens.2.2.2.2.2
  · rw [if_neg e, if_neg e]; exact ht
theorem next_out {x : CX} {L : Texts} {u : Int} (ht : TInv L u) (dr : Bool) (b : UInt8) : ∃ l, (x.next L u dr b).out = x.out ++ l ∧ l.length ≤ 400 := by
  unfold CX.next
  split
  · have hs := ht.small dr (x.rd.read b).req
    exact ⟨_, rfl, bytes_len _ hs.1 hs.2.1 hs.2.2⟩
  · exact ⟨[], by simp, by simp⟩

/-- Server.read: a byte is read, at any time. -/
theorem sread_any {N : Nat} {F G : Nat → Prop} {I : List Int} {W : Wst} {w : World} {c S s m cm wb made : Nat} {dr : Bool} {x : CX} {dv uv ov : Value} {L : Texts} {u : Int} (h : Hid (Cn F w c x dv uv ov)) (hs : Hid (SrvT w S s m cm wb made dr L u)) (dS : ¬ F S) (ds : ¬ F s) (dm : ¬ F m)
    (hi : Hid (CInv x)) (ht : Hid (TInv L u)) (hk : x.kind ≠ 2) (b : UInt8) (hout : x.out.length ≤ 100000) (hT : Hid (Tb N w)) (hN : Hid ((∀ k, F k → N ≤ k) ∧ N ≤ s ∧ N ≤ m ∧ N ≤ w.heap.size)) (hby : Hid (WBy N F G I w S s m wb W)) (hI : x.id ∈ I) :
    Calls Tryz.prog 69 #[.pointer (some ⟨S, 0, none⟩), .pointer (some ⟨c, 0, none⟩), .int .u8 b.toNat] w fun e w' => e = .returned (.tuple #[]) ∧ ReadX F G I W w w' c S s m cm wb made dr (x.next L u dr b) (x.nextL L u b) (x.nextU L u b) := by
  have hr := hi.out.read b
  have hc := hi.out.rd.count hi.out.tag
  by_cases e : (x.rd.read b).tag = 0
  · exact sread_over h hs dS ds dm hk (by omega) b (hid hr.good) e hr.lens.2.2.2.2.2 (hid ht.out.short) (by have := ht.out.low; omega) (by have := ht.out.most; omega) hout hT hN (hid (ht.out.small dr _)) hby hI
  · exact sread_more h hs dS ds dm hk (by omega) b (hid hr.good) e hby hI hT hN

end Go.Proofs.YtiiapfkcmdkkoaaGreatDoor

/-
  What a connection tells of itself: listens, reads, isDone; putAside.
-/
namespace Go.Proofs.YtiiapfkcmdkkoaaGreatDoor
open Go.RowKit Go.MapKept

set_option maxHeartbeats 400000 in
theorem restingListens (w : World) : Calls Tryz.prog 165 #[.agg #[]] w fun e w' => e = .returned (.bool true) ∧ Same w w' := by
  go_enter Tryz.func165, Tryz.ntmps165
  go_wp2
  go_ret
  exact ⟨rfl, by first | exact Upd.refl _ w | exact (Upd.refl _ w).alloc _⟩
set_option maxHeartbeats 400000 in
theorem readingListens (r : Nat) (w : World) : Calls Tryz.prog 242 #[.agg #[.pointer (some ⟨r, 0, none⟩)]] w fun e w' => e = .returned (.bool true) ∧ Same w w' := by
  go_enter Tryz.func242, Tryz.ntmps242
  go_wp2
  go_ret
  exact ⟨rfl, by first | exact Upd.refl _ w | exact (Upd.refl _ w).alloc _⟩
set_option maxHeartbeats 400000 in
theorem leavingListens (w : World) : Calls Tryz.prog 238 #[.agg #[]] w fun e w' => e = .returned (.bool false) ∧ Same w w' := by
  go_enter Tryz.func238, Tryz.ntmps238
  go_wp2
  go_ret
  exact ⟨rfl, by first | exact Upd.refl _ w | exact (Upd.refl _ w).alloc _⟩

/-- listens, called through the interface. -/
def Lst (dv : Value) (q : Bool) : Prop := ∃ ty rv f, dv = .iface ty rv ∧ (∀ W : World, (method 395 ty rv "hearth/hearth.listens").run Tryz.prog W = .ok (f, rv) W) ∧ Ent f ∧ ∀ W, Calls Tryz.prog f #[rv] W fun e w' => e = .returned (.bool q) ∧ Same W w'

theorem listens_calls {F : Nat → Prop} {w : World} {c : Nat} {x : CX} {dv uv ov : Value} (h : Cn F w c x dv uv ov) : Lst dv (decide (x.kind ≠ 2)) := by
  rcases h.doing with ⟨h1, rfl⟩ | ⟨h1, h2, h3, r, Fr, rfl, h5, h6⟩ | ⟨h1, rfl⟩
  · rw [h1]
    exact ⟨_, _, 165, rfl, fun W => by kernel_rfl, enters_of Tryz.func165 (by kernel_rfl) rfl, restingListens⟩
  · rw [h1]
    exact ⟨_, _, 242, rfl, fun W => by cases x.σ.headOver <;> kernel_rfl, enters_of Tryz.func242 (by kernel_rfl) rfl, readingListens r⟩
  · rw [h1]
    exact ⟨_, _, 238, rfl, fun W => by kernel_rfl, enters_of Tryz.func238 (by kernel_rfl) rfl, leavingListens⟩

theorem Cn.quOut {F : Nat → Prop} {w : World} {c : Nat} {x : CX} {dv uv ov : Value} (h : Cn F w c x dv uv ov) : Qu w c 3 #[dv, .int .i64 x.id, uv, ov] 77 ov x.out := ⟨h.blk, rfl, h.ro, by decide⟩
theorem Cn.quUn {F : Nat → Prop} {w : World} {c : Nat} {x : CX} {dv uv ov : Value} (h : Cn F w c x dv uv ov) : Qu w c 2 #[dv, .int .i64 x.id, uv, ov] 77 uv x.unread := ⟨h.blk, rfl, h.ru, by decide⟩

set_option maxHeartbeats 800000 in
set_option maxRecDepth 100000 in
theorem reads_any {F : Nat → Prop} {w : World} {c : Nat} {x : CX} {dv uv ov : Value} (h : Hid (Cn F w c x dv uv ov)) (hl : x.out.length ≤ 1000000) :
    Calls Tryz.prog 68 #[.pointer (some ⟨c, 0, none⟩)] w fun e w' => e = .returned (.bool (decide (x.kind ≠ 2 ∧ x.out.length < 250))) ∧ Same w w' := by
  obtain ⟨c0, c1, c2, c3, f0, f1, f2, f3⟩ := h.out.blk'
  obtain ⟨ty, rv, f, rfl, hm, hent, hc⟩ := listens_calls h.out
  have HC := hid hc
  clear hc
  cases hq : decide (x.kind ≠ 2)
  · have hk : x.kind = 2 := by simpa using hq
    rw [hq] at HC
    have HR : Hid (decide (x.kind ≠ 2 ∧ x.out.length < 250) = false) := by show _ = _; simp [hk]
    clear hq hk
    rw [HR.out]
    go_enter Tryz.func68, Tryz.ntmps68
    go_wp2_with fail
    refine (HC.out w).mono ?_
    rintro e w1 ⟨rfl, hu⟩
    have HU := hid hu
    clear hu
    go_wp2
    go_ret
    exact ⟨rfl, HU.out⟩
  · have hk : x.kind ≠ 2 := by simpa using hq
    rw [hq] at HC
    have HR : Hid (decide (x.kind ≠ 2 ∧ x.out.length < 250) = !decide (250 ≤ x.out.length)) := by
      show _ = _
      by_cases h2 : 250 ≤ x.out.length
      · simp [h2, Nat.not_lt.2 h2]
      · simp [h2, hk]; omega
    clear hq hk
    rw [HR.out]
    go_enter Tryz.func68, Tryz.ntmps68
    go_wp2_with fail
    refine (HC.out w).mono ?_
    rintro e w1 ⟨rfl, hu⟩
    have H1 := hid (h.out.keep hu (fun _ _ h => h)).quOut
    have HU := hid hu
    clear hu
    go_wp2_with fail
    refine (isFull_any H1 hl).mono ?_
    rintro e w2 ⟨rfl, hu⟩
    have HU2 := hid (HU.out.trans hu)
    clear hu
    go_wp2
    go_ret
    exact ⟨rfl, HU2.out⟩

set_option maxHeartbeats 800000 in
set_option maxRecDepth 100000 in
theorem isDone_any {F : Nat → Prop} {w : World} {c : Nat} {x : CX} {dv uv ov : Value} (h : Hid (Cn F w c x dv uv ov)) :
    Calls Tryz.prog 79 #[.pointer (some ⟨c, 0, none⟩)] w fun e w' => e = .returned (.bool (decide (x.kind = 2 ∧ x.out = []))) ∧ Same w w' := by
  obtain ⟨c0, c1, c2, c3, f0, f1, f2, f3⟩ := h.out.blk'
  obtain ⟨ty, rv, f, rfl, hm, hent, hc⟩ := listens_calls h.out
  have HC := hid hc
  clear hc
  cases hq : decide (x.kind ≠ 2)
  · have hk : x.kind = 2 := by simpa using hq
    rw [hq] at HC
    have HR : Hid (decide (x.kind = 2 ∧ x.out = []) = decide ((x.out.length : Int) = 0)) := by show _ = _; simp [hk]
    clear hq hk
    rw [HR.out]
    go_enter Tryz.func79, Tryz.ntmps79
    go_wp2_with fail
    refine (HC.out w).mono ?_
    rintro e w1 ⟨rfl, hu⟩
    have H1 := hid (h.out.keep hu (fun _ _ h => h)).quOut
    have HU := hid hu
    clear hu
    go_wp2_with fail
    refine (qsize_any H1).mono ?_
    rintro e w2 ⟨rfl, hu⟩
    have HU2 := hid (HU.out.trans hu)
    clear hu
    go_wp2
    go_ret
    exact ⟨by first | rfl | (refine ret_bool ?_; simp), HU2.out⟩
  · have hk : x.kind ≠ 2 := by simpa using hq
    rw [hq] at HC
    have HR : Hid (decide (x.kind = 2 ∧ x.out = []) = false) := by show _ = _; simp [hk]
    clear hq hk
    rw [HR.out]
    go_enter Tryz.func79, Tryz.ntmps79
    go_wp2_with fail
    refine (HC.out w).mono ?_
    rintro e w1 ⟨rfl, hu⟩
    have HU := hid hu
    clear hu
    go_wp2
    go_ret
    exact ⟨rfl, HU.out⟩

/-- What a method of the connection leaves: the connection in the state x', nothing else changed but in its own blocks. -/
def ConnX (F : Nat → Prop) (w w' : World) (c : Nat) (x' : CX) : Prop :=
  ∃ F' dv' uv' ov', Cn F' w' c x' dv' uv' ov' ∧ Upd F w w' ∧ (∀ k, F' k → F k ∨ (w.heap.size ≤ k ∧ k < w'.heap.size))

theorem ConnX.after {F : Nat → Prop} {w w1 w2 : World} {c : Nat} {x : CX} (hu : Same w w1) (h : ConnX F w1 w2 c x) : ConnX F w w2 c x := by
  obtain ⟨F', dv, uv, ov, h1, h2, h3⟩ := h
  refine ⟨F', dv, uv, ov, h1, (hu.mono (fun _ _ h => h.elim)).trans h2, fun k hk => ?_⟩
  rcases h3 k hk with h4 | h4
  · exact Or.inl h4
  · have := hu.size; right; omega

/-- 'out' is changed. -/
theorem out_at {F : Nat → Prop} {w w1 : World} {c : Nat} {x : CX} {dv uv ov : Value} {bs : List UInt8} (h : Cn F w c x dv uv ov) (hq : QAt w w1 c 3 #[dv, .int .i64 x.id, uv, ov] 77 ov bs) :
    ConnX F w w1 c { x with out := bs } := by
  obtain ⟨v', hr, hb1, U, ho⟩ := hq
  have hoc : ov.ownBlock ≠ some c := h.ro.far h.blk (by decide)
  have hMF : ∀ k, (k = c ∨ ov.ownBlock = some k) → F k := by
    rintro k (rfl | h1)
    · exact h.fc
    · exact h.fo k h1
  have hsz := U.size
  refine ⟨fun k => F k ∨ (w.heap.size ≤ k ∧ k < w1.heap.size), dv, uv, v', ⟨by simpa using hb1, ?_, hr, ?_, Or.inl h.fc, fun k hk => Or.inl (h.fu k hk), ?_, ?_, ?_⟩, U.mono (fun k _ e => hMF k e), fun k hk => hk⟩
  · refine h.ru.keep U ?_
    rintro k hk (rfl | h1)
    · exact h.ru.far h.blk (by decide) hk
    · exact h.sep k hk h1
  · intro k hk h1
    rcases ho k h1 with h2 | h2
    · exact h.sep k hk h2
    · have := h.ru.lt k hk; omega
  · intro k hk
    rcases ho k hk with h2 | h2
    · exact Or.inl (h.fo k h2)
    · exact Or.inr h2
  · rintro k (hk | hk)
    · have := h.lt k hk; omega
    · exact hk.2
  · rcases h.doing with h1 | ⟨h1, h2, h3, r, Fr, h4, h5, h6⟩ | h1
    · exact Or.inl h1
    · refine Or.inr (Or.inl ⟨h1, h2, h3, r, Fr, h4, h5.keep U (fun k hk e => by rcases e with e | e; exact (h6 k hk).2.1 e; exact (h6 k hk).2.2.2 e), fun k hk => ⟨Or.inl (h6 k hk).1, (h6 k hk).2.1, (h6 k hk).2.2.1, fun e => ?_⟩⟩)
      rcases ho k e with h7 | h7
      · exact (h6 k hk).2.2.2 h7
      · have := h.lt k (h6 k hk).1; omega
    · exact Or.inr (Or.inr h1)

/-- 'unread' is changed. -/
theorem unread_at {F : Nat → Prop} {w w1 : World} {c : Nat} {x : CX} {dv uv ov : Value} {bs : List UInt8} (h : Cn F w c x dv uv ov) (hq : QAt w w1 c 2 #[dv, .int .i64 x.id, uv, ov] 77 uv bs) :
    ConnX F w w1 c { x with unread := bs } := by
  obtain ⟨v', hr, hb1, U, ho⟩ := hq
  have hMF : ∀ k, (k = c ∨ uv.ownBlock = some k) → F k := by
    rintro k (rfl | h1)
    · exact h.fc
    · exact h.fu k h1
  have hsz := U.size
  refine ⟨fun k => F k ∨ (w.heap.size ≤ k ∧ k < w1.heap.size), dv, v', ov, ⟨by simpa using hb1, hr, ?_, ?_, Or.inl h.fc, ?_, fun k hk => Or.inl (h.fo k hk), ?_, ?_⟩, U.mono (fun k _ e => hMF k e), fun k hk => hk⟩
  · refine h.ro.keep U ?_
    rintro k hk (rfl | h1)
    · exact h.ro.far h.blk (by decide) hk
    · exact h.sep k h1 hk
  · intro k hk h1
    rcases ho k hk with h2 | h2
    · exact h.sep k h2 h1
    · have := h.ro.lt k h1; omega
  · intro k hk
    rcases ho k hk with h2 | h2
    · exact Or.inl (h.fu k h2)
    · exact Or.inr h2
  · rintro k (hk | hk)
    · have := h.lt k hk; omega
    · exact hk.2
  · rcases h.doing with h1 | ⟨h1, h2, h3, r, Fr, h4, h5, h6⟩ | h1
    · exact Or.inl h1
    · refine Or.inr (Or.inl ⟨h1, h2, h3, r, Fr, h4, h5.keep U (fun k hk e => by rcases e with e | e; exact (h6 k hk).2.1 e; exact (h6 k hk).2.2.1 e), fun k hk => ⟨Or.inl (h6 k hk).1, (h6 k hk).2.1, fun e => ?_, (h6 k hk).2.2.2⟩⟩)
      rcases ho k e with h7 | h7
      · exact (h6 k hk).2.2.1 h7
      · have := h.lt k (h6 k hk).1; omega
    · exact Or.inr (Or.inr h1)

set_option maxHeartbeats 800000 in
set_option maxRecDepth 100000 in
theorem putAside_any {F : Nat → Prop} {w : World} {c : Nat} {x : CX} {dv uv ov : Value} (h : Hid (Cn F w c x dv uv ov)) (hl : x.unread.length ≤ 300) (l : ByteArray) (hb : l.size ≤ 140737488355328) :
    Calls Tryz.prog 70 #[.pointer (some ⟨c, 0, none⟩), .string l] w fun e w' => e = .returned (.int .i64 (if x.kind = 2 then 0 else min l.data.toList.length (300 - x.unread.length) : Nat)) ∧ ConnX F w w' c (if x.kind = 2 then x else { x with unread := x.unread ++ l.data.toList.take (300 - x.unread.length) }) := by
  obtain ⟨c0, c1, c2, c3, f0, f1, f2, f3⟩ := h.out.blk'
  obtain ⟨ty, rv, f, rfl, hm, hent, hc⟩ := listens_calls h.out
  have HC := hid hc
  clear hc
  cases hq : decide (x.kind ≠ 2)
  · have hk : x.kind = 2 := by simpa using hq
    rw [hq] at HC
    rw [if_pos hk, if_pos hk]
    clear hq hk
    go_enter Tryz.func70, Tryz.ntmps70
    go_wp2_with fail
    refine (HC.out w).mono ?_
    rintro e w1 ⟨rfl, hu⟩
    have HE : Hid (ConnX F w w1 c x) := ⟨F, _, _, _, h.out.keep hu (fun _ _ h => h), hu.mono (fun _ _ h => h.elim), fun k hk => Or.inl hk⟩
    clear hu
    go_wp2
    go_ret
    exact ⟨rfl, HE.out⟩
  · have hk : x.kind ≠ 2 := by simpa using hq
    rw [hq] at HC
    rw [if_neg hk, if_neg hk]
    clear hq hk
    go_enter Tryz.func70, Tryz.ntmps70
    go_wp2_with fail
    refine (HC.out w).mono ?_
    rintro e w1 ⟨rfl, hu⟩
    have h1 := h.out.keep hu (fun _ _ h => h)
    have H1 := hid h1
    have HU := hid hu
    clear hu h1
    go_wp2_with fail
    refine (admit_any (hid H1.out.quUn) hl l hb).mono ?_
    rintro e w2 ⟨rfl, hq⟩
    have HE := hid (ConnX.after HU.out (unread_at H1.out hq))
    clear hq
    go_wp2
    go_ret
    exact ⟨rfl, HE.out⟩

end Go.Proofs.YtiiapfkcmdkkoaaGreatDoor
