import Derived.Test.YtiiapfkcmdkkoaaGreatDoorQ06
import Derived.Shelf.Abstract
/-
  A byte is handed to a piece's state.
-/
namespace Go.Proofs.YtiiapfkcmdkkoaaGreatDoor
open Go.RowKit

def RS.next (σ : RS) : RS :=
  match σ.tag with
  | 3 => σ.fresh 4
  | 4 => { σ with tag := 1 }
  | 5 => σ.fresh 6
  | 6 => σ.endField
  | 7 => σ.endHead
  | 8 => σ.endSigns
  | 9 => ({ σ with signs := [] } : RS).fresh 8
  | _ => { σ with tag := 0 }

/-- A byte behind the run. -/
def RS.ending (σ : RS) (b : UInt8) : RS :=
  if (endOf σ.tag)[σ.met]? = some b then
    if σ.met + 1 < (endOf σ.tag).size then { σ with ph := 1, met := σ.met + 1 } else σ.next
  else σ.failed 1

def RS.piece (σ : RS) (b : UInt8) : RS :=
  if σ.ph = 0 then
    if σ.kept < mostOf σ.tag σ.sz ∧ clsOf σ.tag b = true then { σ.push (fldOf σ.tag) b with kept := σ.kept + 1 }
    else if σ.kept < leastOf σ.tag σ.sz then σ.failed 1
    else σ.ending b
  else σ.ending b

/-- What holds of a reader at all times. -/
structure Good (σ : RS) : Prop where
  tag : σ.tag ≤ 10
  met : 3 ≤ σ.tag → σ.met < (endOf σ.tag).size
  ph : σ.ph ≤ 1
  kept : 3 ≤ σ.tag → σ.kept ≤ mostOf σ.tag σ.sz
  least : 3 ≤ σ.tag → σ.ph = 1 → leastOf σ.tag σ.sz ≤ σ.kept
  size : ∀ f, IsRow f → (σ.get f).length ≤ 200
  room : 3 ≤ σ.tag → mostOf σ.tag σ.sz ≤ 200
  name : ∀ c ∈ σ.name, isNameB c.toNat = true
  value : ∀ c ∈ σ.value, isValB c.toNat = true
  signs : ∀ c ∈ σ.signs, isSignB c.toNat = true
  four : σ.signs.length ≤ 4
  got : σ.tag = 8 → σ.signs.length = σ.kept
  len : σ.length ≤ 1000000000

theorem ent174 : Ent 174 := enters_of Tryz.func174 (by kernel_rfl) rfl
theorem ent178 : Ent 178 := enters_of Tryz.func178 (by kernel_rfl) rfl
theorem ent180 : Ent 180 := enters_of Tryz.func180 (by kernel_rfl) rfl
theorem ent191 : Ent 191 := enters_of Tryz.func191 (by kernel_rfl) rfl
theorem ent193 : Ent 193 := enters_of Tryz.func193 (by kernel_rfl) rfl
theorem ent202 : Ent 202 := enters_of Tryz.func202 (by kernel_rfl) rfl
theorem ent175 : Ent 175 := enters_of Tryz.func175 (by kernel_rfl) rfl
theorem ent179 : Ent 179 := enters_of Tryz.func179 (by kernel_rfl) rfl
theorem ent188 : Ent 188 := enters_of Tryz.func188 (by kernel_rfl) rfl
theorem ent192 : Ent 192 := enters_of Tryz.func192 (by kernel_rfl) rfl
theorem ent183 : Ent 183 := enters_of Tryz.func183 (by kernel_rfl) rfl
theorem ent194 : Ent 194 := enters_of Tryz.func194 (by kernel_rfl) rfl
theorem ent189 : Ent 189 := enters_of Tryz.func189 (by kernel_rfl) rfl
theorem ent201 : Ent 201 := enters_of Tryz.func201 (by kernel_rfl) rfl

theorem tags {t : Nat} (h3 : 3 ≤ t) (h10 : t ≤ 10) : t = 3 ∨ t = 4 ∨ t = 5 ∨ t = 6 ∨ t = 7 ∨ t = 8 ∨ t = 9 ∨ t = 10 := by omega

theorem ent_has (t : Nat) (h3 : 3 ≤ t) (h10 : t ≤ 10) : Ent (hasFn t) := by
  rcases tags h3 h10 with rfl | rfl | rfl | rfl | rfl | rfl | rfl | rfl
  · exact ent174
  · exact ent178
  · exact ent180
  · exact ent191
  · exact ent202
  · exact ent193
  · exact ent202
  · exact ent202
theorem ent_next (t : Nat) (h3 : 3 ≤ t) (h10 : t ≤ 10) : Ent (nextFn t) := by
  rcases tags h3 h10 with rfl | rfl | rfl | rfl | rfl | rfl | rfl | rfl
  · exact ent175
  · exact ent179
  · exact ent188
  · exact ent192
  · exact ent183
  · exact ent194
  · exact ent189
  · exact ent201

theorem cls_calls (t : Nat) (h3 : 3 ≤ t) (h10 : t ≤ 10) (h7 : t ≠ 7) (h10' : t ≠ 10) (b : UInt8) (W : World) : Calls Tryz.prog (hasFn t) #[.int .u8 b.toNat] W fun e w' => e = .returned (.bool (clsOf t b)) ∧ w' = W := by
  rcases tags h3 h10 with rfl | rfl | rfl | rfl | rfl | rfl | rfl | rfl
  · exact isCapital_any _ _
  · exact isPathByte_any _ _
  · exact isNameByte_any _ _
  · exact isValueByte_any _ _
  · exact absurd rfl h7
  · exact isSign_any _ _
  · exact isAny_any _ _
  · exact absurd rfl h10'

theorem name_ascii {l : List UInt8} (h : ∀ c ∈ l, isNameB c.toNat = true) : Ascii l := ascii_mem.2 fun c hc => by
  have := h c hc; simp [isNameB, isCapB, isSmallB, isDigB] at this; omega
theorem value_ascii {l : List UInt8} (h : ∀ c ∈ l, isValB c.toNat = true) : Ascii l := ascii_mem.2 fun c hc => by
  have := h c hc; simp [isValB] at this; omega

/-- The next state is made. -/
theorem next_makes (hP : Hid ParseHex) {F : Nat → Prop} {w : World} {r : Nat} {σ : RS} {nv : Value} {R : Nat → Value} (h : RdrB F w r σ nv R) (h3 : 3 ≤ σ.tag) (g : Good σ) (hl : leastOf σ.tag σ.sz ≤ σ.kept) : Makes (nextFn σ.tag) (nextArgs r σ.tag) F w r σ.next nv := by
  unfold RS.next
  have hg : ∀ f, IsRow f → (σ.get f).length ≤ 200 := g.size
  rcases tags h3 g.tag with e | e | e | e | e | e | e | e <;> rw [e]
  · exact readPath_makes h
  · exact readFields_makes h
  · exact readValue_makes h
  · exact endField_makes h (Nat.le_trans (hg 6 (by simp [IsRow])) (by omega)) (Nat.le_trans (hg 7 (by simp [IsRow])) (by omega)) (name_ascii g.name) (value_ascii g.value)
  · exact endHead_makes h g.len
  · refine endSigns_makes hP h ?_ g.four g.signs (Nat.le_trans (hg 12 (by simp [IsRow])) (by omega))
    rw [g.got e]; rw [e] at hl; exact hl
  · exact readChunk_makes h
  · exact over_makes h

end Go.Proofs.YtiiapfkcmdkkoaaGreatDoor

/-
  A byte is handed to a piece's state: what comes.
-/
namespace Go.Proofs.YtiiapfkcmdkkoaaGreatDoor
open Go.RowKit

theorem RdrB.keep2 {F M : Nat → Prop} {w w' : World} {r : Nat} {σ : RS} {nv : Value} {R : Nat → Value} (h : RdrB F w r σ nv R) (hu : Upd M w w') (hr : ¬ M r) (hm : ∀ f, IsRow f → ∀ k, (R f).ownBlock = some k → ¬ M k) : RdrB F w' r σ nv R := {
  blk := hu.keep h.blk hr
  row := fun f hf => (h.row f hf).keep hu (hm f hf)
  sep := h.sep
  fr := h.fr
  own := h.own
  lt := fun k hk => Nat.lt_of_lt_of_le (h.lt k hk) hu.size }

theorem Clo.ne {w : World} {B r : Nat} {at_ kept met least most : Int} {has keep : Value} {ending : ByteArray} {nextv : Value} (h : Clo w B r at_ kept met least most has keep ending nextv) {c : Array Value} (hr : w.heap[r]? = some (.cells c 232 (0, 0))) :
    ∀ k, B ≤ k → k < B + 8 → k ≠ r := by
  intro k h1 h2 e
  subst e
  have hc : k = B ∨ k = B + 1 ∨ k = B + 2 ∨ k = B + 3 ∨ k = B + 4 ∨ k = B + 5 ∨ k = B + 6 ∨ k = B + 7 := by omega
  rcases hc with e | e | e | e | e | e | e | e <;> rw [e] at hr
  · rw [h.b0] at hr; simp at hr
  · rw [h.b1] at hr; simp at hr
  · rw [h.b2] at hr; simp at hr
  · rw [h.b3] at hr; simp at hr
  · rw [h.b4] at hr; simp at hr
  · rw [h.b5] at hr; simp at hr
  · rw [h.b6] at hr; simp at hr
  · rw [h.b7] at hr; simp at hr

/-- The closure's own variables are written. -/
theorem RdrB.keepClo {F M : Nat → Prop} {w w' : World} {r B : Nat} {σ : RS} {nv : Value} {R : Nat → Value} {at_ kept met least most : Int} {has keep : Value} {ending : ByteArray} {nextv : Value} (h : RdrB F w r σ nv R) (hc : Clo w B r at_ kept met least most has keep ending nextv) (hu : Upd M w w') (hm : ∀ k, M k → B ≤ k ∧ k < B + 8) : RdrB F w' r σ nv R :=
  h.keep2 hu (fun e => hc.ne h.blk r (hm r e).1 (hm r e).2 rfl) (fun f hf k hk e => hc.far (h.row f hf) k (hm k e).1 (hm k e).2 hk)

theorem isrow_fld (t : Nat) (h3 : 3 ≤ t) (h10 : t ≤ 10) : IsRow (fldOf t) := by
  rcases tags h3 h10 with rfl | rfl | rfl | rfl | rfl | rfl | rfl | rfl <;> simp [IsRow, fldOf]

theorem get_push (σ : RS) (f : Nat) (b : UInt8) (g : Nat) (hf : IsRow f) (hg : IsRow g) : (σ.push f b).get g = if g = f then σ.get f ++ [b] else σ.get g := by
  rcases hf with rfl | rfl | rfl | rfl | rfl | rfl <;> rcases hg with rfl | rfl | rfl | rfl | rfl | rfl <;> rfl

theorem push_same (σ : RS) (f : Nat) (b : UInt8) : (σ.push f b).count = σ.count ∧ (σ.push f b).headOver = σ.headOver ∧ (σ.push f b).fault = σ.fault ∧ (σ.push f b).close = σ.close ∧ (σ.push f b).kind = σ.kind ∧ (σ.push f b).length = σ.length ∧ (σ.push f b).tag = σ.tag ∧ (σ.push f b).sz = σ.sz ∧ (σ.push f b).ph = σ.ph ∧ (σ.push f b).met = σ.met := by
  unfold RS.push
  split <;> exact ⟨rfl, rfl, rfl, rfl, rfl, rfl, rfl, rfl, rfl, rfl⟩

theorem end_get (t m : Nat) (b : UInt8) (h : m < (endOf t).size) : (endOf t)[m]? = some b ↔ (endOf t)[m]'h = b := by
  rw [getElem?_pos (endOf t) m h]
  exact ⟨fun e => by injection e, fun e => by rw [e]⟩

theorem end_small (t : Nat) (h3 : 3 ≤ t) (h10 : t ≤ 10) : (endOf t).size ≤ 11 := by
  rcases tags h3 h10 with rfl | rfl | rfl | rfl | rfl | rfl | rfl | rfl <;> decide

theorem toNat_ne {a b : UInt8} (h : ¬ a = b) : (b.toNat : Int) ≠ a.toNat := by
  intro e
  have : b.toNat = a.toNat := by omega
  exact h (UInt8.toNat_inj.1 this.symm)

/-- The state stays: the closure's variables alone have turned. -/
theorem made_self {F M : Nat → Prop} {w w' : World} {r B : Nat} {σ' : RS} {nv : Value} {R : Nat → Value} (h : RdrB F w' r σ' nv R) (h3 : 3 ≤ σ'.tag) (hu : Upd M w w') (hm : ∀ k, k < w.heap.size → M k → F k)
    (hc : Clo w' B r σ'.ph σ'.kept σ'.met (leastOf σ'.tag σ'.sz) (mostOf σ'.tag σ'.sz) (hasV σ'.tag) (keepV r σ'.tag) (endOf σ'.tag) (.func (.func (nextFn σ'.tag)) (nextArgs r σ'.tag) #[])) (hF : ∀ k, B ≤ k → k < B + 8 → F k) : Made F w w' r σ' nv (cloV B) := by
  refine ⟨F, ⟨⟨R, h⟩, ?_⟩, hu.mono hm, fun k hk => Or.inl hk⟩
  unfold CloS
  split
  · omega
  · omega
  · omega
  · exact ⟨B, rfl, hc, hF⟩

section
variable {F : Nat → Prop} {w : World} {r B : Nat} {σ : RS} {nv : Value} {R : Nat → Value}

/-- What the closure of a reader's state holds. -/
abbrev CloOf (w : World) (B r : Nat) (σ : RS) : Prop := Clo w B r σ.ph σ.kept σ.met (leastOf σ.tag σ.sz) (mostOf σ.tag σ.sz) (hasV σ.tag) (keepV r σ.tag) (endOf σ.tag) (.func (.func (nextFn σ.tag)) (nextArgs r σ.tag) #[])

theorem has_func (t : Nat) (h7 : t ≠ 7) (h10 : t ≠ 10) : hasV t = .func (.func (hasFn t)) #[] #[] := by
  unfold hasV; split
  · exact absurd rfl h7
  · exact absurd rfl h10
  · rfl
theorem keep_func (r t : Nat) (h7 : t ≠ 7) (h10 : t ≠ 10) : keepV r t = .pointer (some ⟨r, fldOf t, none⟩) := by
  unfold keepV; split
  · exact absurd rfl h7
  · exact absurd rfl h10
  · rfl

theorem run_over (h3 : 3 ≤ σ.tag) (g : Good σ) (b : UInt8) (ho : ¬ (σ.kept < mostOf σ.tag σ.sz ∧ clsOf σ.tag b = true)) : RunOver b.toNat σ.kept (mostOf σ.tag σ.sz) (hasV σ.tag) := by
  by_cases hk : σ.kept < mostOf σ.tag σ.sz
  · have h7 : σ.tag ≠ 7 := by intro e; rw [e] at hk; simp [mostOf] at hk
    have h10 : σ.tag ≠ 10 := by intro e; rw [e] at hk; simp [mostOf] at hk
    have hcl : clsOf σ.tag b = false := by
      cases hc : clsOf σ.tag b
      · rfl
      · exact absurd ⟨hk, hc⟩ ho
    refine Or.inr ⟨by omega, hasFn σ.tag, has_func _ h7 h10, ent_has _ h3 g.tag, fun W => ?_⟩
    have := cls_calls σ.tag h3 g.tag h7 h10 b W
    rw [hcl] at this
    exact this
  · exact Or.inl (by omega)

theorem piece_keep (h : RdrB F w r σ nv R) (hc : CloOf w B r σ) (hF : ∀ k, B ≤ k → k < B + 8 → F k) (h3 : 3 ≤ σ.tag) (g : Good σ) (b : UInt8) (hph : σ.ph = 0) (hk : σ.kept < mostOf σ.tag σ.sz) (hcl : clsOf σ.tag b = true) :
    Makes 177 (cloArgs b.toNat B) F w r { σ.push (fldOf σ.tag) b with kept := σ.kept + 1 } nv := by
  have h7 : σ.tag ≠ 7 := by intro e; rw [e] at hk; simp [mostOf] at hk
  have h10 : σ.tag ≠ 10 := by intro e; rw [e] at hk; simp [mostOf] at hk
  have hrow := isrow_fld σ.tag h3 g.tag
  have hc' : Clo w B r 0 σ.kept σ.met (leastOf σ.tag σ.sz) (mostOf σ.tag σ.sz) (.func (.func (hasFn σ.tag)) #[] #[]) (.pointer (some ⟨r, fldOf σ.tag, none⟩)) (endOf σ.tag) (.func (.func (nextFn σ.tag)) (nextArgs r σ.tag) #[]) := by
    have := hc
    rw [CloOf, hph, has_func _ h7 h10, keep_func r _ h7 h10] at this
    exact this
  have hcell : (#[nv, .int .i64 σ.count, .bool σ.headOver, .int .i64 σ.fault, R 4, R 5, R 6, R 7, .bool σ.close, .int .i64 σ.kind, .int .i64 σ.length, R 11, R 12] : Array Value)[fldOf σ.tag]? = some (R (fldOf σ.tag)) := by
    rcases hrow with e | e | e | e | e | e <;> rw [e] <;> rfl
  have hroom := g.room h3
  refine Calls.mono (clo0_keep w B r b σ.kept (leastOf σ.tag σ.sz) (mostOf σ.tag σ.sz) σ.met (fldOf σ.tag) (hasFn σ.tag) (endOf σ.tag) _ _ (R (fldOf σ.tag)) (σ.get (fldOf σ.tag)) hc' (by omega) (by omega) (by omega) h.blk hcell (h.row _ hrow) (Nat.le_trans (g.size _ hrow) (by omega)) (ent_has _ h3 g.tag) (fun W => by
    have := cls_calls σ.tag h3 g.tag h7 h10 b W
    rw [hcl] at this
    exact this)) ?_
  rintro e w' ⟨rfl, v', hu, hb, h5, hr, hf⟩
  obtain ⟨p1, p2, p3, p4, p5, p6, p7, p8, p9, p10⟩ := push_same σ (fldOf σ.tag) b
  have hput := h.put (σ' := { σ.push (fldOf σ.tag) b with kept := σ.kept + 1 }) (fldOf σ.tag) hrow v' hu (by
      rintro q hq k hk (e | e | e)
      · exact Or.inl e
      · subst e; exact absurd hk (hc.far (h.row q hq) _ (by omega) (by omega))
      · exact Or.inr e) hb (by
      have := get_push σ (fldOf σ.tag) b (fldOf σ.tag) hrow hrow
      rw [if_pos rfl] at this
      show Row w' v' ((σ.push (fldOf σ.tag) b).get (fldOf σ.tag))
      rw [this]; exact hr) hf (by
      intro q hq hne
      have := get_push σ (fldOf σ.tag) b q hrow hq
      rw [if_neg hne] at this
      exact this) p1 p2 p3 p4 p5 p6
  have hne : ∀ k, B ≤ k → k < B + 8 → k ≠ B + 5 → ¬ (k = r ∨ k = B + 5 ∨ (R (fldOf σ.tag)).ownBlock = some k) := by
    rintro k h1 h2 h5 (e | e | e)
    · exact hc.ne h.blk k h1 h2 e
    · exact h5 e
    · exact hc.far (h.row _ hrow) k h1 h2 e
  have hclo : CloOf w' B r { σ.push (fldOf σ.tag) b with kept := σ.kept + 1 } := by
    show Clo w' B r (σ.push (fldOf σ.tag) b).ph ((σ.kept + 1 : Nat) : Int) (σ.push (fldOf σ.tag) b).met (leastOf (σ.push (fldOf σ.tag) b).tag (σ.push (fldOf σ.tag) b).sz) (mostOf (σ.push (fldOf σ.tag) b).tag (σ.push (fldOf σ.tag) b).sz) (hasV (σ.push (fldOf σ.tag) b).tag) (keepV r (σ.push (fldOf σ.tag) b).tag) (endOf (σ.push (fldOf σ.tag) b).tag) (.func (.func (nextFn (σ.push (fldOf σ.tag) b).tag)) (nextArgs r (σ.push (fldOf σ.tag) b).tag) #[])
    rw [p7, p8, p9, p10]
    exact ⟨hu.keep hc.b0 (hne _ (by omega) (by omega) (by omega)), hu.keep hc.b1 (hne _ (by omega) (by omega) (by omega)), hu.keep hc.b2 (hne _ (by omega) (by omega) (by omega)), hu.keep hc.b3 (hne _ (by omega) (by omega) (by omega)), hu.keep hc.b4 (hne _ (by omega) (by omega) (by omega)), h5, hu.keep hc.b6 (hne _ (by omega) (by omega) (by omega)), hu.keep hc.b7 (hne _ (by omega) (by omega) (by omega))⟩
  refine ⟨_, rfl, fun k => F k ∨ v'.ownBlock = some k, ⟨⟨_, hput⟩, ?_⟩, hu.mono ?_, ?_⟩
  · unfold CloS
    have e : ({ σ.push (fldOf σ.tag) b with kept := σ.kept + 1 } : RS).tag = σ.tag := p7
    split
    · rename_i e'; rw [e] at e'; omega
    · rename_i e'; rw [e] at e'; omega
    · rename_i e'; rw [e] at e'; omega
    · exact ⟨B, rfl, hclo, fun k a b => Or.inl (hF k a b)⟩
  · rintro k _ (e | e | e)
    · exact e ▸ h.fr
    · exact hF k (by omega) (by omega)
    · exact h.own _ hrow k e
  · rintro k (hk | hk)
    · exact Or.inl hk
    · rcases hf k hk with e | e
      · exact Or.inl (h.own _ hrow k e)
      · exact Or.inr ⟨e, hr.lt k hk⟩

/-- The ending's ways, the closure's variables as 'at_' says; 'W', 'W1': the world behind the step into the ending, and behind one more byte of it. -/
theorem made_more (h : RdrB F w r σ nv R) (hc : CloOf w B r σ) (hF : ∀ k, B ≤ k → k < B + 8 → F k) (h3 : 3 ≤ σ.tag) :
    Made F w ((w.setCell ⟨B + 4, 0, none⟩ (.int .i64 1)).setCell ⟨B + 6, 0, none⟩ (.int .i64 ((σ.met : Int) + 1))) r { σ with ph := 1, met := σ.met + 1 } nv (cloV B) := by
  have hu : Upd (fun k => k = B + 4 ∨ k = B + 6) w ((w.setCell ⟨B + 4, 0, none⟩ (.int .i64 1)).setCell ⟨B + 6, 0, none⟩ (.int .i64 ((σ.met : Int) + 1))) := ((Upd.one _ _ _ _).mono (fun _ _ h => Or.inl h)).trans ((Upd.one _ _ _ _).mono (fun _ _ h => Or.inr h))
  have h1 := h.keepClo hc hu (by rintro k (rfl | rfl) <;> omega)
  have hn : ∀ k, k ≠ B + 4 → k ≠ B + 6 → ¬ (k = B + 4 ∨ k = B + 6) := by rintro k a b (e | e) <;> contradiction
  refine made_self (σ' := { σ with ph := 1, met := σ.met + 1 }) { h1 with } h3 hu (by rintro k _ (rfl | rfl) <;> exact hF _ (by omega) (by omega)) ?_ hF
  refine ⟨hu.keep hc.b0 (hn _ (by omega) (by omega)), hu.keep hc.b1 (hn _ (by omega) (by omega)), hu.keep hc.b2 (hn _ (by omega) (by omega)), hu.keep hc.b3 (hn _ (by omega) (by omega)), ?_, hu.keep hc.b5 (hn _ (by omega) (by omega)), ?_, hu.keep hc.b7 (hn _ (by omega) (by omega))⟩
  · rw [Below.heap_setCell _ _ _ _ (by simp)]
    have := heap_setCell hc.b4 0 (.int .i64 1)
    simpa using this
  · have := heap_setCell (w := w.setCell ⟨B + 4, 0, none⟩ (.int .i64 1)) (b := B + 6) ((Below.heap_setCell _ _ _ _ (by simp)).trans hc.b6) 0 (.int .i64 ((σ.met : Int) + 1))
    simpa using this

theorem made_more1 (h : RdrB F w r σ nv R) (hc : CloOf w B r σ) (hF : ∀ k, B ≤ k → k < B + 8 → F k) (h3 : 3 ≤ σ.tag) (hph : σ.ph = 1) :
    Made F w (w.setCell ⟨B + 6, 0, none⟩ (.int .i64 ((σ.met : Int) + 1))) r { σ with ph := 1, met := σ.met + 1 } nv (cloV B) := by
  have hu : Upd (fun k => k = B + 6) w (w.setCell ⟨B + 6, 0, none⟩ (.int .i64 ((σ.met : Int) + 1))) := Upd.one _ _ _ _
  have h1 := h.keepClo hc hu (by rintro k rfl; omega)
  refine made_self (σ' := { σ with ph := 1, met := σ.met + 1 }) { h1 with } h3 hu (by rintro k _ rfl; exact hF _ (by omega) (by omega)) ?_ hF
  refine ⟨hu.keep hc.b0 (by omega), hu.keep hc.b1 (by omega), hu.keep hc.b2 (by omega), hu.keep hc.b3 (by omega), ?_, hu.keep hc.b5 (by omega), ?_, hu.keep hc.b7 (by omega)⟩
  · have := hu.keep hc.b4 (by omega)
    rw [hph] at this
    exact this
  · have := heap_setCell hc.b6 0 (.int .i64 ((σ.met : Int) + 1))
    simpa using this

theorem ending0_makes (hP : Hid ParseHex) (h : RdrB F w r σ nv R) (hc : CloOf w B r σ) (hF : ∀ k, B ≤ k → k < B + 8 → F k) (h3 : 3 ≤ σ.tag) (g : Good σ) (b : UInt8) (hph : σ.ph = 0) (ho : ¬ (σ.kept < mostOf σ.tag σ.sz ∧ clsOf σ.tag b = true)) (hl : leastOf σ.tag σ.sz ≤ σ.kept) :
    Makes 177 (cloArgs b.toNat B) F w r (σ.ending b) nv := by
  have hm := g.met h3
  have hsm := end_small σ.tag h3 g.tag
  have hc' : Clo w B r 0 σ.kept σ.met (leastOf σ.tag σ.sz) (mostOf σ.tag σ.sz) (hasV σ.tag) (keepV r σ.tag) (endOf σ.tag) (.func (.func (nextFn σ.tag)) (nextArgs r σ.tag) #[]) := by
    have := hc
    rw [CloOf, hph] at this
    exact this
  have hov := run_over h3 g b ho
  have hu4 : Upd (fun k => k = B + 4) w (w.setCell ⟨B + 4, 0, none⟩ (.int .i64 1)) := Upd.one _ _ _ _
  have hF4 : Upd F w (w.setCell ⟨B + 4, 0, none⟩ (.int .i64 1)) := hu4.mono (by rintro k _ rfl; exact hF _ (by omega) (by omega))
  have hB4 := h.keepClo hc hu4 (by rintro k rfl; omega)
  unfold RS.ending
  by_cases hb : (endOf σ.tag)[σ.met]? = some b
  · rw [if_pos hb]
    have hb' := (end_get σ.tag σ.met b hm).1 hb
    by_cases hmore : σ.met + 1 < (endOf σ.tag).size
    · rw [if_pos hmore]
      refine Calls.mono (clo0_more w B r b.toNat σ.kept (leastOf σ.tag σ.sz) (mostOf σ.tag σ.sz) σ.met _ _ _ _ hc' hov (by omega) hm (by rw [hb']) hmore (by omega)) ?_
      rintro e w' ⟨rfl, rfl⟩
      exact ⟨_, rfl, made_more h hc hF h3⟩
    · rw [if_neg hmore]
      have hu6 : Upd (fun k => k = B + 6) (w.setCell ⟨B + 4, 0, none⟩ (.int .i64 1)) ((w.setCell ⟨B + 4, 0, none⟩ (.int .i64 1)).setCell ⟨B + 6, 0, none⟩ (.int .i64 ((σ.met : Int) + 1))) := Upd.one _ _ _ _
      have hU : Upd (fun k => k = B + 4 ∨ k = B + 6) w ((w.setCell ⟨B + 4, 0, none⟩ (.int .i64 1)).setCell ⟨B + 6, 0, none⟩ (.int .i64 ((σ.met : Int) + 1))) := (hu4.mono (fun _ _ h => Or.inl h)).trans (hu6.mono (fun _ _ h => Or.inr h))
      have hB6 := h.keepClo hc hU (by rintro k (rfl | rfl) <;> omega)
      refine clo0_next w B r b.toNat σ.kept (leastOf σ.tag σ.sz) (mostOf σ.tag σ.sz) σ.met _ _ _ _ _ (fun sv w' => Made F w w' r σ.next nv sv) hc' hov (by omega) hm (by rw [hb']) (by omega) (by omega) (ent_next _ h3 g.tag) ?_
      refine Calls.mono (next_makes hP hB6 h3 g hl) ?_
      rintro e w' ⟨sv, rfl, hmd⟩
      exact ⟨sv, rfl, hmd.from (hU.mono (by rintro k _ (rfl | rfl) <;> exact hF _ (by omega) (by omega)))⟩
  · rw [if_neg hb]
    have hb' := fun e => hb ((end_get σ.tag σ.met b hm).2 e)
    refine Calls.mono (clo0_bad w B r b.toNat σ.kept (leastOf σ.tag σ.sz) (mostOf σ.tag σ.sz) σ.met _ _ _ _ _ hc' hov (by omega) hm (toNat_ne hb') (h.cell 3) (h.unfrozen 3) (fun e => hc.ne h.blk (B + 4) (by omega) (by omega) e.symm)) ?_
    rintro e w' ⟨rfl, rfl⟩
    exact ⟨_, rfl, made_failed hB4 hF4 1⟩

theorem ending1_makes (hP : Hid ParseHex) (h : RdrB F w r σ nv R) (hc : CloOf w B r σ) (hF : ∀ k, B ≤ k → k < B + 8 → F k) (h3 : 3 ≤ σ.tag) (g : Good σ) (b : UInt8) (hph : σ.ph = 1) :
    Makes 177 (cloArgs b.toNat B) F w r (σ.ending b) nv := by
  have hm := g.met h3
  have hsm := end_small σ.tag h3 g.tag
  have hl := g.least h3 hph
  have hc' : Clo w B r 1 σ.kept σ.met (leastOf σ.tag σ.sz) (mostOf σ.tag σ.sz) (hasV σ.tag) (keepV r σ.tag) (endOf σ.tag) (.func (.func (nextFn σ.tag)) (nextArgs r σ.tag) #[]) := by
    have := hc
    rw [CloOf, hph] at this
    exact this
  unfold RS.ending
  by_cases hb : (endOf σ.tag)[σ.met]? = some b
  · rw [if_pos hb]
    have hb' := (end_get σ.tag σ.met b hm).1 hb
    by_cases hmore : σ.met + 1 < (endOf σ.tag).size
    · rw [if_pos hmore]
      refine Calls.mono (clo1_more w B r b.toNat σ.kept (leastOf σ.tag σ.sz) (mostOf σ.tag σ.sz) σ.met _ _ _ _ hc' hm (by rw [hb']) hmore (by omega)) ?_
      rintro e w' ⟨rfl, rfl⟩
      exact ⟨_, rfl, made_more1 h hc hF h3 hph⟩
    · rw [if_neg hmore]
      have hU : Upd (fun k => k = B + 6) w (w.setCell ⟨B + 6, 0, none⟩ (.int .i64 ((σ.met : Int) + 1))) := Upd.one _ _ _ _
      have hB6 := h.keepClo hc hU (by rintro k rfl; omega)
      refine clo1_next w B r b.toNat σ.kept (leastOf σ.tag σ.sz) (mostOf σ.tag σ.sz) σ.met _ _ _ _ _ (fun sv w' => Made F w w' r σ.next nv sv) hc' hm (by rw [hb']) (by omega) (by omega) (ent_next _ h3 g.tag) ?_
      refine Calls.mono (next_makes hP hB6 h3 g hl) ?_
      rintro e w' ⟨sv, rfl, hmd⟩
      exact ⟨sv, rfl, hmd.from (hU.mono (by rintro k _ rfl; exact hF _ (by omega) (by omega)))⟩
  · rw [if_neg hb]
    have hb' := fun e => hb ((end_get σ.tag σ.met b hm).2 e)
    refine Calls.mono (clo1_bad w B r b.toNat σ.kept (leastOf σ.tag σ.sz) (mostOf σ.tag σ.sz) σ.met _ _ _ _ _ hc' hm (toNat_ne hb') (h.cell 3) (h.unfrozen 3)) ?_
    rintro e w' ⟨rfl, rfl⟩
    exact ⟨_, rfl, made_failed h (Upd.refl _ _) 1⟩

theorem piece_makes (hP : Hid ParseHex) (h : RdrB F w r σ nv R) (hc : CloOf w B r σ) (hF : ∀ k, B ≤ k → k < B + 8 → F k) (h3 : 3 ≤ σ.tag) (g : Good σ) (b : UInt8) :
    Makes 177 (cloArgs b.toNat B) F w r (σ.piece b) nv := by
  unfold RS.piece
  by_cases hph : σ.ph = 0
  · rw [if_pos hph]
    by_cases hk : σ.kept < mostOf σ.tag σ.sz ∧ clsOf σ.tag b = true
    · rw [if_pos hk]
      exact piece_keep h hc hF h3 g b hph hk.1 hk.2
    · rw [if_neg hk]
      by_cases hl : σ.kept < leastOf σ.tag σ.sz
      · rw [if_pos hl]
        have hc' : Clo w B r 0 σ.kept σ.met (leastOf σ.tag σ.sz) (mostOf σ.tag σ.sz) (hasV σ.tag) (keepV r σ.tag) (endOf σ.tag) (.func (.func (nextFn σ.tag)) (nextArgs r σ.tag) #[]) := by
          have := hc
          rw [CloOf, hph] at this
          exact this
        refine Calls.mono (clo0_short w B r b.toNat σ.kept (leastOf σ.tag σ.sz) (mostOf σ.tag σ.sz) σ.met _ _ _ _ _ hc' (run_over h3 g b hk) (by omega) (h.cell 3) (h.unfrozen 3)) ?_
        rintro e w' ⟨rfl, rfl⟩
        exact ⟨_, rfl, made_failed h (Upd.refl _ _) 1⟩
      · rw [if_neg hl]
        exact ending0_makes hP h hc hF h3 g b hph hk (by omega)
  · rw [if_neg hph]
    exact ending1_makes hP h hc hF h3 g b (by have := g.ph; omega)

end
end Go.Proofs.YtiiapfkcmdkkoaaGreatDoor

/-
  readFields' closure; Read.
-/
namespace Go.Proofs.YtiiapfkcmdkkoaaGreatDoor
open Go.RowKit

theorem Made.bind {F F' : Nat → Prop} {w w1 w2 : World} {r : Nat} {σ : RS} {nv sv : Value} (h : Made F' w1 w2 r σ nv sv) (hu : Upd F w w1) (hf : ∀ k, F' k → F k ∨ (w.heap.size ≤ k ∧ k < w1.heap.size)) : Made F w w2 r σ nv sv := by
  obtain ⟨F2, h1, h2, h3⟩ := h
  refine ⟨F2, h1, ⟨h2.os.trans hu.os, h2.tape.trans hu.tape, h2.output.trans hu.output, Nat.le_trans hu.size h2.size, fun k hk hn => (h2.block k (Nat.lt_of_lt_of_le hk hu.size) (fun e => ?_)).trans (hu.block k hk hn)⟩, fun k hk => ?_⟩
  · rcases hf k e with h4 | h4
    · exact hn h4
    · omega
  · rcases h3 k hk with h4 | h4
    · rcases hf k h4 with h5 | h5
      · exact Or.inl h5
      · right; have := h2.size; omega
    · right; have := hu.size; omega

def RS.fields (σ : RS) (b : UInt8) : RS := if b = 13 then σ.fresh 7 else (({ σ with name := [], value := [] } : RS).fresh 5).piece b

theorem good_name {σ : RS} (g : Good σ) : Good (({ σ with name := [], value := [] } : RS).fresh 5) := {
  tag := by show 5 ≤ 10; omega
  met := fun _ => by show 0 < (endOf 5).size; decide
  ph := by show 0 ≤ 1; omega
  kept := fun _ => by show 0 ≤ _; omega
  least := fun _ h => by exact absurd h (by show ¬ 0 = 1; omega)
  size := by
    rintro f hf
    have := g.size f hf
    rcases hf with rfl | rfl | rfl | rfl | rfl | rfl
    · exact this
    · exact this
    · show ([] : List UInt8).length ≤ 200; simp
    · show ([] : List UInt8).length ≤ 200; simp
    · exact this
    · exact this
  room := fun _ => by show 20 ≤ 200; omega
  name := by intro c hc; cases hc
  value := by intro c hc; cases hc
  signs := g.signs
  four := g.four
  got := fun h => by exact absurd h (by show ¬ 5 = 8; omega)
  len := g.len }

theorem exactly7_makes {F : Nat → Prop} {w : World} {r : Nat} {σ : RS} {nv : Value} {R : Nat → Value} (h : RdrB F w r σ nv R) : Makes 182 #[.pointer (some ⟨r, 0, none⟩), .string ((⟨#[13, 10]⟩ : ByteArray).extract 1 2), .func (.func 183) #[.pointer (some ⟨r, 0, none⟩)] #[]] F w r (σ.fresh 7) nv := by
  have hx : (⟨#[13, 10]⟩ : ByteArray).extract 1 2 = ⟨#[10]⟩ := by decide
  rw [hx]
  refine Calls.mono (exactly_any r _ _ _ w) ?_
  rintro e w' ⟨rfl, rfl⟩
  exact ⟨_, rfl, made_piece h (Upd.refl _ _) 7 (by omega)⟩

set_option maxHeartbeats 400000 in
theorem fields_makes (hP : Hid ParseHex) {F : Nat → Prop} {w : World} {r q : Nat} {σ : RS} {nv : Value} {R : Nat → Value} (h : Hid (RdrB F w r σ nv R)) (hq : w.heap[q]? = some (.cells #[.pointer (some ⟨r, 0, none⟩)] 139 (0, 0))) (g : Hid (Good σ)) (b : UInt8) :
    Makes 181 #[.int .u8 b.toNat, .pointer (some ⟨q, 0, none⟩)] F w r (σ.fields b) nv := by
  have hmf : ∀ (fn : Fn) (first cap : Array Value) (w : World), (Instr.makeFunc fn first cap).run Tryz.prog w = .ok (.func fn first cap) w := fun _ _ _ _ => rfl
  have cq : w.cell? ⟨q, 0, none⟩ = some (.pointer (some ⟨r, 0, none⟩)) := cell_of_heap hq 0
  clear hq
  unfold Makes
  by_cases hb : b = 13
  · have HS : Hid (σ.fields b = σ.fresh 7) := by show _ = _; unfold RS.fields; rw [if_pos hb]
    subst hb
    go_enter Tryz.func181, Tryz.ntmps181
    go_wp2
    go_region_with (go_at_call 182; refine Calls.mono (exactly7_makes (h.out.keep (Upd.refl (fun _ => False) w).drew (fun _ _ h => h))) ?_; rintro e w2 ⟨sv, rfl, hm⟩; have HM : Hid (Made F w w2 r (σ.fresh 7) nv sv) := hm.from (Upd.refl _ w).drew; clear hm)
    all_goals
      go_wp2
      go_ret
      rw [HS.out]
      exact ⟨_, rfl, HM.out⟩
  · have HS : Hid (σ.fields b = (({ σ with name := [], value := [] } : RS).fresh 5).piece b) := by show _ = _; unfold RS.fields; rw [if_neg hb]
    have hb' : ((b.toNat : Int) == (((⟨#[13, 10]⟩ : ByteArray)[0]'(by decide)).toNat : Int)) = false := by
      rw [beq_eq_false_iff_ne]
      intro e
      have e' : (b.toNat : Int) = 13 := e
      exact hb (UInt8.toNat_inj.1 (by show b.toNat = 13; omega))
    clear hb
    go_enter Tryz.func181, Tryz.ntmps181
    go_wp2_with fail
    refine Calls.mono (readName_makes h.out) ?_
    rintro e w1 ⟨sv, rfl, F1, ⟨⟨R1, hB1⟩, hC1⟩, hU1, hf1⟩
    obtain ⟨B, rfl, hclo, hF1⟩ : ∃ B, sv = cloV B ∧ CloOf w1 B r (({ σ with name := [], value := [] } : RS).fresh 5) ∧ ∀ k, B ≤ k → k < B + 8 → F1 k := hC1
    have HM : Hid (Makes 177 (cloArgs b.toNat B) F1 w1 r ((({ σ with name := [], value := [] } : RS).fresh 5).piece b) nv) := piece_makes hP hB1 hclo hF1 (by show 3 ≤ 5; omega) (good_name g.out) b
    have HU : Hid (Upd F w w1) := hU1
    have HF : Hid (∀ k, F1 k → F k ∨ (w.heap.size ≤ k ∧ k < w1.heap.size)) := hf1
    clear hclo hF1 hB1 hU1 hf1
    unfold cloV
    go_wp2_with fail
    refine Calls.mono HM.out ?_
    rintro e w2 ⟨sv2, rfl, hm⟩
    have HM2 : Hid (Made F w w2 r ((({ σ with name := [], value := [] } : RS).fresh 5).piece b) nv sv2) := hm.bind HU.out HF.out
    clear hm
    go_wp2
    go_ret
    rw [HS.out]
    exact ⟨sv2, rfl, HM2.out⟩

end Go.Proofs.YtiiapfkcmdkkoaaGreatDoor
