import Derived.Test.YtiiapfkcmdkkoaaGreatDoorQ02
/-
  The closure that 'piece' makes: a byte of its run is kept.
-/
namespace Go.Proofs.YtiiapfkcmdkkoaaGreatDoor
open Go.RowKit

theorem Clo.far {w : World} {B r : Nat} {at_ kept met least most : Int} {has keep : Value} {ending : ByteArray} {nextv : Value} (h : Clo w B r at_ kept met least most has keep ending nextv) {v : Value} {bs : List UInt8} (hrow : Row w v bs) :
    ∀ k, B ≤ k → k < B + 8 → v.ownBlock ≠ some k := by
  have hne : ∀ k cs t, w.heap[k]? = some (.cells cs t (0, 0)) → t ≠ 5 → v.ownBlock ≠ some k := by
    intro k cs t hk ht he
    obtain ⟨cur, hcur⟩ := hrow.block k he
    rw [hk] at hcur
    simp at hcur
    exact ht hcur.2
  intro k h1 h2
  have hc : k = B ∨ k = B + 1 ∨ k = B + 2 ∨ k = B + 3 ∨ k = B + 4 ∨ k = B + 5 ∨ k = B + 6 ∨ k = B + 7 := by omega
  rcases hc with rfl | rfl | rfl | rfl | rfl | rfl | rfl | rfl
  · exact hne _ _ _ h.b0 (by decide)
  · exact hne _ _ _ h.b1 (by decide)
  · exact hne _ _ _ h.b2 (by decide)
  · exact hne _ _ _ h.b3 (by decide)
  · exact hne _ _ _ h.b4 (by decide)
  · exact hne _ _ _ h.b5 (by decide)
  · exact hne _ _ _ h.b6 (by decide)
  · exact hne _ _ _ h.b7 (by decide)

theorem Row.far {w : World} {v : Value} {bs : List UInt8} (hrow : Row w v bs) {k : Nat} {cs : Array Value} {t : TypeId} (hk : w.heap[k]? = some (.cells cs t (0, 0))) (ht : t ≠ 5) : v.ownBlock ≠ some k := by
  intro he
  obtain ⟨cur, hcur⟩ := hrow.block k he
  rw [hk] at hcur
  simp at hcur
  exact ht hcur.2

theorem keep_end {w w1 : World} {B r f hf : Nat} {b : UInt8} {kept least most met : Int} {ending : ByteArray} {nextv : Value} {c : Array Value} {v v2 : Value} {bs : List UInt8}
    (h : Clo w B r 0 kept met least most (.func (.func hf) #[] #[]) (.pointer (some ⟨r, f, none⟩)) ending nextv) (hr : w.heap[r]? = some (.cells c 232 (0, 0))) (hrow : Row w v bs)
    (U : Upd (fun k => v.ownBlock = some k) w w1) (hrow1 : Row w1 v2 (bs ++ [b])) (hfr : ∀ k, v2.ownBlock = some k → v.ownBlock = some k ∨ w.heap.size + 1 ≤ k) :
    ∃ v', Upd (fun k => k = r ∨ k = B + 5 ∨ v.ownBlock = some k) w ((w1.setCell ⟨r, f, none⟩ v2).setCell ⟨B + 5, 0, none⟩ (.int .i64 (kept + 1))) ∧
      ((w1.setCell ⟨r, f, none⟩ v2).setCell ⟨B + 5, 0, none⟩ (.int .i64 (kept + 1))).heap[r]? = some (.cells (c.setIfInBounds f v') 232 (0, 0)) ∧ ((w1.setCell ⟨r, f, none⟩ v2).setCell ⟨B + 5, 0, none⟩ (.int .i64 (kept + 1))).heap[B + 5]? = some (.cells #[.int .i64 (kept + 1)] 3 (0, 0)) ∧
      Row ((w1.setCell ⟨r, f, none⟩ v2).setCell ⟨B + 5, 0, none⟩ (.int .i64 (kept + 1))) v' (bs ++ [b]) ∧ (∀ k, v'.ownBlock = some k → v.ownBlock = some k ∨ w.heap.size ≤ k) := by
  have hrB : r ≠ B + 5 := by intro e; rw [e, h.b5] at hr; simp at hr
  have hF := h.far hrow (B + 5) (by omega) (by omega)
  have hG := hrow.far hr (by decide)
  have r1 : w1.heap[r]? = some (.cells c 232 (0, 0)) := U.keep hr hG
  have b1 : w1.heap[B + 5]? = some (.cells #[.int .i64 kept] 3 (0, 0)) := U.keep h.b5 hF
  have hrl := lt_of_heap hr
  have hbl := lt_of_heap h.b5
  have U1 : Upd (fun k => k = r ∨ k = B + 5 ∨ v.ownBlock = some k) w w1 := U.mono (fun k _ h => Or.inr (Or.inr h))
  have U2 := (U1.setCell (p := ⟨r, f, none⟩) (fun _ => Or.inl rfl) v2).setCell (p := ⟨B + 5, 0, none⟩) (fun _ => Or.inr (Or.inl rfl)) (.int .i64 (kept + 1))
  refine ⟨v2, U2, ?_, ?_, ?_, fun k hk => (hfr k hk).imp id (by omega)⟩
  · rw [Below.heap_setCell _ _ _ _ (by exact hrB)]
    exact heap_setCell r1 f v2
  · have := heap_setCell (w := w1.setCell ⟨r, f, none⟩ v2) (b := B + 5) ((Below.heap_setCell _ _ _ _ (by exact Ne.symm hrB)).trans b1) 0 (.int .i64 (kept + 1))
    simpa using this
  · have U3 : Upd (fun k => k = r ∨ k = B + 5) w1 ((w1.setCell ⟨r, f, none⟩ v2).setCell ⟨B + 5, 0, none⟩ (.int .i64 (kept + 1))) := ((Upd.refl _ _).setCell (p := ⟨r, f, none⟩) (fun _ => Or.inl rfl) v2).setCell (p := ⟨B + 5, 0, none⟩) (fun _ => Or.inr rfl) _
    refine hrow1.keep U3 ?_
    rintro k hk (rfl | rfl)
    · exact hrow1.far r1 (by decide) hk
    · exact hrow1.far b1 (by decide) hk

set_option maxHeartbeats 1000000 in
theorem clo0_keep (w : World) (B r : Nat) (b : UInt8) (kept least most met : Int) (f hf : Nat) (ending : ByteArray) (nextv : Value) (c : Array Value) (v : Value) (bs : List UInt8)
    (h : Clo w B r 0 kept met least most (.func (.func hf) #[] #[]) (.pointer (some ⟨r, f, none⟩)) ending nextv) (hk : kept < most) (h0 : 0 ≤ kept) (hmx : most ≤ 1000)
    (hr : w.heap[r]? = some (.cells c 232 (0, 0))) (hcf : c[f]? = some v) (hrow : Row w v bs) (hlen : bs.length ≤ 1000)
    (henth : Ent hf) (hhas : Hid (∀ W : World, Calls Tryz.prog hf #[.int .u8 b.toNat] W fun e w' => e = .returned (.bool true) ∧ w' = W)) :
    Calls Tryz.prog 177 (cloArgs b.toNat B) w fun e w' => e = .returned (cloV B) ∧ ∃ v', Upd (fun k => k = r ∨ k = B + 5 ∨ v.ownBlock = some k) w w' ∧
      w'.heap[r]? = some (.cells (c.setIfInBounds f v') 232 (0, 0)) ∧ w'.heap[B + 5]? = some (.cells #[.int .i64 (kept + 1)] 3 (0, 0)) ∧ Row w' v' (bs ++ [b]) ∧ (∀ k, v'.ownBlock = some k → v.ownBlock = some k ∨ w.heap.size ≤ k) := by
  obtain ⟨c0, c10, c11, c12, c13, c2, c3, c4, c5, c6, c7, f4, f5, f6⟩ := h.cells
  have cr : w.cell? ⟨r, f, none⟩ = some v := (cell_of_heap hr f).trans hcf
  have fr : w.frozen? ⟨r, f, none⟩ = false := unfrozen_of_heap hr f
  have hrlt := lt_of_heap hr
  have hBlt := lt_of_heap h.b7
  have hrB5 : r ≠ B + 5 := by intro e; rw [e, h.b5] at hr; simp at hr
  have hrB7 : r ≠ B + 7 := by intro e; rw [e, h.b7] at hr; simp at hr
  obtain ⟨ao, ln, cp, hv⟩ : ∃ ao ln cp, v = .slice ao ln cp := by
    rcases hrow.form with ⟨h1, _⟩ | ⟨g, cap, h1⟩
    · exact ⟨_, _, _, h1⟩
    · exact ⟨_, _, _, h1⟩
  subst hv
  have HB : Hid (Clo w B r 0 kept met least most (.func (.func hf) #[] #[]) (.pointer (some ⟨r, f, none⟩)) ending nextv) := h
  have HR : Hid (w.heap[r]? = some (.cells c 232 (0, 0))) := hr
  have HC : Hid (c[f]? = some (.slice ao ln cp)) := hcf
  have HF : Hid (∀ k, B ≤ k → k < B + 8 → (Value.slice ao ln cp).ownBlock ≠ some k) := h.far hrow
  have HG : Hid ((Value.slice ao ln cp).ownBlock ≠ some r) := hrow.far hr (by decide)
  have HW : Hid (Row w (.slice ao ln cp) bs) := hrow
  clear h hr hcf hrow
  have e13 : ∀ o, (w.alloc o).cell? ⟨B + 1, 3, none⟩ = some (.pointer (some ⟨r, f, none⟩)) := fun o => (World.cell?_alloc_past _ _ _ (show B + 1 < w.heap.size by omega)).trans c13
  have er : ∀ o, (w.alloc o).cell? ⟨r, f, none⟩ = some (.slice ao ln cp) := fun o => (World.cell?_alloc_past _ _ _ hrlt).trans cr
  unfold cloV at c7 ⊢
  go_enter Tryz.func177, Tryz.ntmps177
  go_wp2_with (refine (hhas.out _).mono ?_; rintro e w' ⟨rfl, hw⟩; rw [hw]; clear hw w')
  go_region_law (
    (refine step_append_row rfl (.tmp 31) (.tmp 33) rfl (.slice ao ln cp) bs (by simp [Act.eval]) (by exact HW.out.keep ((Upd.refl (fun _ => False) _).alloc _).drew (fun _ _ h => h)) ⟨w.heap.size, 0, none⟩ 1 1 [b] (by simp [Act.eval]) rfl (by intro j u hj; match j, hj with | 0, hj => simp at hj; subst hj; simp [Addr.add, byteV]) (by omega) ?_
     intro v2 w1 hrow1 hgr hfr hiff
     have U : Upd (fun k => (Value.slice ao ln cp).ownBlock = some k) w w1 := ((Upd.refl _ _).alloc _).drew.grown hgr (fun k _ h => h)
     obtain ⟨d0, d10, d11, d12, d13, d2, d3, d4, d5, d6, d7, g4, g5, g6⟩ := (HB.out.keep U HF.out).cells
     have dr : w1.cell? ⟨r, f, none⟩ = some (.slice ao ln cp) := (U.cell hrlt HG.out).trans cr
     have gr : w1.frozen? ⟨r, f, none⟩ = false := (U.frozen hrlt HG.out).trans fr
     obtain ⟨g, cap2, hv2⟩ : ∃ g cap2, v2 = .slice (some ⟨g, 0, none⟩) (bs.length + 1) cap2 := by
       rcases hrow1.form with ⟨_, h1⟩ | ⟨g, cap, h1⟩
       · simp at h1
       · exact ⟨g, cap, by simpa using h1⟩
     subst hv2
     have HE : Hid (∃ v', Upd (fun k => k = r ∨ k = B + 5 ∨ (Value.slice ao ln cp).ownBlock = some k) w ((w1.setCell ⟨r, f, none⟩ (.slice (some ⟨g, 0, none⟩) (bs.length + 1) cap2)).setCell ⟨B + 5, 0, none⟩ (.int .i64 (kept + 1))) ∧ _ ∧ _ ∧ _ ∧ _) := keep_end HB.out HR.out HW.out U hrow1 (by simpa using hfr)
     clear U hrow1 hgr hfr hiff
     unfold cloV at d7))
  all_goals
    go_wp2
    go_ret
    exact ⟨rfl, HE.out⟩

end Go.Proofs.YtiiapfkcmdkkoaaGreatDoor

/-
  The reader of requests, as plain functions on lists of bytes; and how it lies in memory.
-/
namespace Go.Proofs.YtiiapfkcmdkkoaaGreatDoor
open Go.RowKit

/-- A reader. tag: 0 over, 1 fields, 2 a counted body, 3 method, 4 path, 5 name, 6 value, 7 the head's end, 8 signs, 9 a chunk, 10 the last chunk's end. ph, kept, met: where a piece stands. -/
structure RS where
  tag : Nat
  sz : Nat
  ph : Nat
  kept : Nat
  met : Nat
  count : Nat
  headOver : Bool
  fault : Nat
  method : List UInt8
  path : List UInt8
  name : List UInt8
  value : List UInt8
  close : Bool
  kind : Nat
  length : Nat
  signs : List UInt8
  body : List UInt8

/-- The lists of a reader, by their fields in memory. -/
def RS.get (σ : RS) : Nat → List UInt8
  | 4 => σ.method
  | 5 => σ.path
  | 6 => σ.name
  | 7 => σ.value
  | 11 => σ.signs
  | _ => σ.body
def RS.push (σ : RS) (f : Nat) (b : UInt8) : RS :=
  match f with
  | 4 => { σ with method := σ.method ++ [b] }
  | 5 => { σ with path := σ.path ++ [b] }
  | 6 => { σ with name := σ.name ++ [b] }
  | 7 => { σ with value := σ.value ++ [b] }
  | 11 => { σ with signs := σ.signs ++ [b] }
  | _ => { σ with body := σ.body ++ [b] }

def RS.fresh (σ : RS) (t : Nat) : RS := { σ with tag := t, ph := 0, kept := 0, met := 0 }
def RS.failed (σ : RS) (f : Nat) : RS := { σ with tag := 0, fault := f }

def leastOf (t sz : Nat) : Nat := match t with | 3 => 1 | 5 => 1 | 8 => 1 | 9 => sz | _ => 0
def mostOf (t sz : Nat) : Nat := match t with | 3 => 8 | 4 => 30 | 5 => 20 | 6 => 200 | 8 => 4 | 9 => sz | _ => 0
def clsOf (t : Nat) (b : UInt8) : Bool := match t with | 3 => isCapB b.toNat | 4 => isPathB b.toNat | 5 => isNameB b.toNat | 6 => isValB b.toNat | 8 => isSignB b.toNat | 9 => true | _ => false
def hasFn (t : Nat) : Nat := match t with | 3 => 174 | 4 => 178 | 5 => 180 | 6 => 191 | 8 => 193 | _ => 202
def fldOf (t : Nat) : Nat := match t with | 3 => 4 | 4 => 5 | 5 => 6 | 6 => 7 | 8 => 11 | _ => 12
def hasV (t : Nat) : Value := match t with | 7 => .nilFunc | 10 => .nilFunc | _ => .func (.func (hasFn t)) #[] #[]
def keepV (r t : Nat) : Value := match t with | 7 => .pointer none | 10 => .pointer none | _ => .pointer (some ⟨r, fldOf t, none⟩)
def endOf (t : Nat) : ByteArray := match t with | 3 => ⟨#[32, 47]⟩ | 4 => ⟨#[32, 72, 84, 84, 80, 47, 49, 46, 49, 13, 10]⟩ | 5 => ⟨#[58]⟩ | 7 => ⟨#[10]⟩ | _ => ⟨#[13, 10]⟩
def nextFn (t : Nat) : Nat := match t with | 3 => 175 | 4 => 179 | 5 => 188 | 6 => 192 | 7 => 183 | 8 => 194 | 9 => 189 | _ => 201
def nextArgs (r t : Nat) : Array Value := match t with | 10 => #[] | _ => #[.pointer (some ⟨r, 0, none⟩)]

/-- The fields that hold rows. -/
def IsRow (f : Nat) : Prop := f = 4 ∨ f = 5 ∨ f = 6 ∨ f = 7 ∨ f = 11 ∨ f = 12

/-- The reader's own cells and rows (R); 'nv' lies in its field next. F: all blocks that are its own. -/
structure RdrB (F : Nat → Prop) (w : World) (r : Nat) (σ : RS) (nv : Value) (R : Nat → Value) : Prop where
  blk : w.heap[r]? = some (.cells #[nv, .int .i64 σ.count, .bool σ.headOver, .int .i64 σ.fault, R 4, R 5, R 6, R 7, .bool σ.close, .int .i64 σ.kind, .int .i64 σ.length, R 11, R 12] 232 (0, 0))
  row : ∀ f, IsRow f → Row w (R f) (σ.get f)
  sep : ∀ f g, IsRow f → IsRow g → f ≠ g → ∀ k, (R f).ownBlock = some k → (R g).ownBlock ≠ some k
  fr : F r
  own : ∀ f, IsRow f → ∀ k, (R f).ownBlock = some k → F k
  lt : ∀ k, F k → k < w.heap.size

/-- What a state's function value is. -/
def CloS (F : Nat → Prop) (w : World) (r : Nat) (σ : RS) (sv : Value) : Prop :=
  match σ.tag with
  | 0 => sv = .nilFunc
  | 1 => ∃ q, sv = .func (.func 181) #[] #[.pointer (some ⟨q, 0, none⟩)] ∧ w.heap[q]? = some (.cells #[.pointer (some ⟨r, 0, none⟩)] 139 (0, 0)) ∧ F q
  | 2 => sv = .func (.func 190) #[.pointer (some ⟨r, 0, none⟩)] #[]
  | t => ∃ B, sv = cloV B ∧ Clo w B r σ.ph σ.kept σ.met (leastOf t σ.sz) (mostOf t σ.sz) (hasV t) (keepV r t) (endOf t) (.func (.func (nextFn t)) (nextArgs r t) #[]) ∧ (∀ k, B ≤ k → k < B + 8 → F k)

/-- The reader as a whole. -/
def Rdr (F : Nat → Prop) (w : World) (r : Nat) (σ : RS) (nv sv : Value) : Prop := (∃ R, RdrB F w r σ nv R) ∧ CloS F w r σ sv

/-- What a call that makes the next state leaves. -/
def Made (F : Nat → Prop) (w w' : World) (r : Nat) (σ' : RS) (nv sv : Value) : Prop := ∃ F', Rdr F' w' r σ' nv sv ∧ Upd F w w' ∧ ∀ k, F' k → F k ∨ (w.heap.size ≤ k ∧ k < w'.heap.size)

theorem RdrB.keep {F M : Nat → Prop} {w w' : World} {r : Nat} {σ : RS} {nv : Value} {R : Nat → Value} (h : RdrB F w r σ nv R) (hu : Upd M w w') (hd : ∀ k, F k → ¬ M k) : RdrB F w' r σ nv R := {
  blk := hu.keep h.blk (hd _ h.fr)
  row := fun f hf => (h.row f hf).keep hu fun k hk => hd k (h.own f hf k hk)
  sep := h.sep
  fr := h.fr
  own := h.own
  lt := fun k hk => Nat.lt_of_lt_of_le (h.lt k hk) hu.size }

theorem CloS.keep {F M : Nat → Prop} {w w' : World} {r : Nat} {σ : RS} {sv : Value} (h : CloS F w r σ sv) (hu : Upd M w w') (hd : ∀ k, F k → ¬ M k) : CloS F w' r σ sv := by
  unfold CloS at h ⊢
  split
  · rename_i e; rw [e] at h; exact h
  · rename_i e; rw [e] at h; obtain ⟨q, h1, h2, h3⟩ := h; exact ⟨q, h1, hu.keep h2 (hd _ h3), h3⟩
  · rename_i e; rw [e] at h; exact h
  · rename_i h0 h1 h2
    split at h
    · rename_i e; exact absurd e h0
    · rename_i e; exact absurd e h1
    · rename_i e; exact absurd e h2
    · obtain ⟨B, e1, e2, e3⟩ := h
      exact ⟨B, e1, e2.keep hu (fun k h1 h2 => hd k (e3 k h1 h2)), e3⟩

theorem Rdr.keep {F M : Nat → Prop} {w w' : World} {r : Nat} {σ : RS} {nv sv : Value} (h : Rdr F w r σ nv sv) (hu : Upd M w w') (hd : ∀ k, F k → ¬ M k) : Rdr F w' r σ nv sv := by
  obtain ⟨⟨R, h1⟩, h2⟩ := h
  exact ⟨⟨R, h1.keep hu hd⟩, h2.keep hu hd⟩

/-- A wider footprint. -/
theorem RdrB.wider {F F' : Nat → Prop} {w : World} {r : Nat} {σ : RS} {nv : Value} {R : Nat → Value} (h : RdrB F w r σ nv R) (hf : ∀ k, F k → F' k) (hl : ∀ k, F' k → k < w.heap.size) : RdrB F' w r σ nv R :=
  { h with fr := hf _ h.fr, own := fun x hx k hk => hf k (h.own x hx k hk), lt := hl }

end Go.Proofs.YtiiapfkcmdkkoaaGreatDoor

/-
  The makers of states, in terms of readers.
-/
namespace Go.Proofs.YtiiapfkcmdkkoaaGreatDoor
open Go.RowKit

def Sub (x' x : Value) (l' l : List UInt8) : Prop := (x' = x ∧ l' = l) ∨ (x' = .slice none 0 0 ∧ l' = [])
theorem Sub.same (x : Value) (l : List UInt8) : Sub x x l l := Or.inl ⟨rfl, rfl⟩
theorem Sub.none (x : Value) (l : List UInt8) : Sub (.slice none 0 0) x [] l := Or.inr ⟨rfl, rfl⟩
theorem Sub.own {x' x : Value} {l' l : List UInt8} (h : Sub x' x l' l) {k : Nat} (hk : x'.ownBlock = some k) : x.ownBlock = some k := by
  rcases h with ⟨rfl, _⟩ | ⟨rfl, _⟩
  · exact hk
  · cases hk
theorem Sub.row {x' x : Value} {l' l : List UInt8} (h : Sub x' x l' l) {M : Nat → Prop} {w w' : World} (hr : Row w x l) (hu : Upd M w w') (hm : ∀ k, x.ownBlock = some k → ¬ M k) : Row w' x' l' := by
  rcases h with ⟨rfl, rfl⟩ | ⟨rfl, rfl⟩
  · exact hr.keep hu hm
  · exact Row.nil _

/-- The reader's own block is written; rows stay or go. -/
theorem RdrB.upd {F : Nat → Prop} {w w1 : World} {r : Nat} {σ σ' : RS} {nv nv' : Value} {R R' : Nat → Value} (h : RdrB F w r σ nv R) (hu : Upd (fun k => k = r) w w1)
    (hb : w1.heap[r]? = some (.cells #[nv', .int .i64 σ'.count, .bool σ'.headOver, .int .i64 σ'.fault, R' 4, R' 5, R' 6, R' 7, .bool σ'.close, .int .i64 σ'.kind, .int .i64 σ'.length, R' 11, R' 12] 232 (0, 0)))
    (hs : ∀ f, IsRow f → Sub (R' f) (R f) (σ'.get f) (σ.get f)) : RdrB F w1 r σ' nv' R' := {
  blk := hb
  row := fun f hf => (hs f hf).row (h.row f hf) hu fun k hk e => (h.row f hf).far h.blk (by decide) (e ▸ hk)
  sep := fun f g hf hg hn k h1 h2 => h.sep f g hf hg hn k ((hs f hf).own h1) ((hs g hg).own h2)
  fr := h.fr
  own := fun f hf k hk => h.own f hf k ((hs f hf).own hk)
  lt := fun k hk => Nat.lt_of_lt_of_le (h.lt k hk) hu.size }

/-- One row is another one now, in its own block or in a new one. -/
theorem RdrB.put {F M : Nat → Prop} {w w1 : World} {r : Nat} {σ σ' : RS} {nv : Value} {R : Nat → Value} (h : RdrB F w r σ nv R) (f : Nat) (hf : IsRow f) (v' : Value) (hu : Upd M w w1)
    (hM : ∀ g, IsRow g → ∀ k, (R g).ownBlock = some k → M k → k = r ∨ (R f).ownBlock = some k)
    (hb : w1.heap[r]? = some (.cells (#[nv, .int .i64 σ.count, .bool σ.headOver, .int .i64 σ.fault, R 4, R 5, R 6, R 7, .bool σ.close, .int .i64 σ.kind, .int .i64 σ.length, R 11, R 12].setIfInBounds f v') 232 (0, 0)))
    (hrow : Row w1 v' (σ'.get f)) (hfr : ∀ k, v'.ownBlock = some k → (R f).ownBlock = some k ∨ w.heap.size ≤ k)
    (hget : ∀ g, IsRow g → g ≠ f → σ'.get g = σ.get g) (h1 : σ'.count = σ.count) (h2 : σ'.headOver = σ.headOver) (h3 : σ'.fault = σ.fault) (h4 : σ'.close = σ.close) (h5 : σ'.kind = σ.kind) (h6 : σ'.length = σ.length) :
    RdrB (fun k => F k ∨ v'.ownBlock = some k) w1 r σ' nv (fun g => if g = f then v' else R g) := {
  blk := by
    rw [hb, h1, h2, h3, h4, h5, h6]
    rcases hf with rfl | rfl | rfl | rfl | rfl | rfl <;> rfl
  row := by
    intro g hg
    by_cases e : g = f
    · subst e; rw [if_pos rfl]; exact hrow
    · rw [if_neg e, hget g hg e]
      refine (h.row g hg).keep hu fun k hk hm => ?_
      rcases hM g hg k hk hm with rfl | h7
      · exact (h.row g hg).far h.blk (by decide) hk
      · exact h.sep g f hg hf e k hk h7
  sep := by
    intro g g' hg hg' hn k
    by_cases e : g = f
    · by_cases e' : g' = f
      · omega
      · rw [if_pos e, if_neg e']
        intro h7 h8
        rcases hfr k h7 with h9 | h9
        · exact h.sep g' f hg' hf e' k h8 h9
        · have := h.lt k (h.own g' hg' k h8); omega
    · by_cases e' : g' = f
      · rw [if_neg e, if_pos e']
        intro h7 h8
        rcases hfr k h8 with h9 | h9
        · exact h.sep g f hg hf e k h7 h9
        · have := h.lt k (h.own g hg k h7); omega
      · rw [if_neg e, if_neg e']
        exact h.sep g g' hg hg' hn k
  fr := Or.inl h.fr
  own := by
    intro g hg k
    by_cases e : g = f
    · rw [if_pos e]; exact Or.inr
    · rw [if_neg e]; exact fun hk => Or.inl (h.own g hg k hk)
  lt := by
    rintro k (hk | hk)
    · exact Nat.lt_of_lt_of_le (h.lt k hk) hu.size
    · exact hrow.lt k hk }

theorem hpush (w : World) (o : Obj) : (w.alloc o).heap = w.heap.push o := rfl
theorem Upd.one (w : World) (r i : Nat) (v : Value) : Upd (fun k => k = r) w (w.setCell ⟨r, i, none⟩ v) := Upd.setCell (M := fun k => k = r) (Upd.refl _ w) (p := ⟨r, i, none⟩) (fun _ => rfl) v
theorem size_setCell (w : World) (a : Addr) (v : Value) : (w.setCell a v).heap.size = w.heap.size := by simp [World.setCell]

theorem pieceW_size (w : World) (rv : Value) (least most : Int) (has keep : Value) (ending : ByteArray) (nextv : Value) : (pieceW w rv least most has keep ending nextv).heap.size = w.heap.size + 8 := by
  simp [pieceW]

theorem pieceW_upd (w : World) (rv : Value) (least most : Int) (has keep : Value) (ending : ByteArray) (nextv : Value) (M : Nat → Prop) : Upd M w (pieceW w rv least most has keep ending nextv) := by
  unfold pieceW
  exact (((((((Upd.refl M w).alloc _).alloc _).alloc _).alloc _).alloc _).alloc _).alloc _ |>.alloc _

theorem pieceW_clo (w : World) (r : Nat) (least most : Int) (has keep : Value) (ending : ByteArray) (nextv : Value) : Clo (pieceW w (.pointer (some ⟨r, 0, none⟩)) least most has keep ending nextv) w.heap.size r 0 0 0 least most has keep ending nextv := by
  constructor <;> (unfold pieceW; simp only [hpush, Array.getElem?_push, Array.size_push]; repeat (first | rw [if_pos trivial] | rw [if_pos (by omega)] | rw [if_neg (by omega)]))

/-- A piece's state is made. -/
theorem made_piece {F : Nat → Prop} {w w1 : World} {r : Nat} {σ : RS} {nv : Value} {R : Nat → Value} (h : RdrB F w1 r σ nv R) (hu : Upd F w w1) (t : Nat) (h3 : 3 ≤ t) :
    Made F w (pieceW w1 (.pointer (some ⟨r, 0, none⟩)) (leastOf t σ.sz) (mostOf t σ.sz) (hasV t) (keepV r t) (endOf t) (.func (.func (nextFn t)) (nextArgs r t) #[])) r (σ.fresh t) nv (cloV w1.heap.size) := by
  refine ⟨fun k => F k ∨ (w1.heap.size ≤ k ∧ k < w1.heap.size + 8), ⟨⟨R, ?_⟩, ?_⟩, hu.trans (pieceW_upd _ _ _ _ _ _ _ _ _), ?_⟩
  · have h1 := h.keep (pieceW_upd w1 (.pointer (some ⟨r, 0, none⟩)) (leastOf t σ.sz) (mostOf t σ.sz) (hasV t) (keepV r t) (endOf t) (.func (.func (nextFn t)) (nextArgs r t) #[]) (fun _ => False)) (fun _ _ h => h)
    have h2 := h1.wider (F' := fun k => F k ∨ (w1.heap.size ≤ k ∧ k < w1.heap.size + 8)) (fun k hk => Or.inl hk) (by
      intro k hk
      rw [pieceW_size]
      rcases hk with hk | hk
      · have := h.lt k hk; omega
      · omega)
    exact { h2 with }
  · unfold CloS
    have e : (σ.fresh t).tag = t := rfl
    rw [e]
    split
    · omega
    · omega
    · omega
    · exact ⟨w1.heap.size, rfl, pieceW_clo _ _ _ _ _ _ _ _, fun k a b => Or.inr ⟨a, b⟩⟩
  · rintro k (hk | hk)
    · exact Or.inl hk
    · right; rw [pieceW_size]; have := hu.size; omega

/-- What a maker of the next state says. -/
def Makes (f : Nat) (args : Array Value) (F : Nat → Prop) (w : World) (r : Nat) (σ' : RS) (nv : Value) : Prop :=
  Calls Tryz.prog f args w fun e w' => ∃ sv, e = .returned sv ∧ Made F w w' r σ' nv sv

theorem readPath_makes {F : Nat → Prop} {w : World} {r : Nat} {σ : RS} {nv : Value} {R : Nat → Value} (h : RdrB F w r σ nv R) : Makes 175 #[.pointer (some ⟨r, 0, none⟩)] F w r (σ.fresh 4) nv := by
  refine (readPath_any r w).mono ?_
  rintro e w' ⟨rfl, rfl⟩
  exact ⟨_, rfl, made_piece h (Upd.refl _ _) 4 (by omega)⟩

theorem readValue_makes {F : Nat → Prop} {w : World} {r : Nat} {σ : RS} {nv : Value} {R : Nat → Value} (h : RdrB F w r σ nv R) : Makes 188 #[.pointer (some ⟨r, 0, none⟩)] F w r (σ.fresh 6) nv := by
  refine (readValue_any r w).mono ?_
  rintro e w' ⟨rfl, rfl⟩
  exact ⟨_, rfl, made_piece h (Upd.refl _ _) 6 (by omega)⟩

theorem readMethod_makes {F : Nat → Prop} {w : World} {r : Nat} {σ : RS} {nv : Value} {R : Nat → Value} (h : RdrB F w r σ nv R) : Makes 169 #[.pointer (some ⟨r, 0, none⟩)] F w r (σ.fresh 3) nv := by
  refine (readMethod_any r w).mono ?_
  rintro e w' ⟨rfl, rfl⟩
  exact ⟨_, rfl, made_piece h (Upd.refl _ _) 3 (by omega)⟩

theorem RdrB.cell {F : Nat → Prop} {w : World} {r : Nat} {σ : RS} {nv : Value} {R : Nat → Value} (h : RdrB F w r σ nv R) (i : Nat) : w.cell? ⟨r, i, none⟩ = (#[nv, .int .i64 σ.count, .bool σ.headOver, .int .i64 σ.fault, R 4, R 5, R 6, R 7, .bool σ.close, .int .i64 σ.kind, .int .i64 σ.length, R 11, R 12] : Array Value)[i]? := cell_of_heap h.blk i
theorem RdrB.unfrozen {F : Nat → Prop} {w : World} {r : Nat} {σ : RS} {nv : Value} {R : Nat → Value} (h : RdrB F w r σ nv R) (i : Nat) : w.frozen? ⟨r, i, none⟩ = false := unfrozen_of_heap h.blk i

theorem readChunk_makes {F : Nat → Prop} {w : World} {r : Nat} {σ : RS} {nv : Value} {R : Nat → Value} (h : RdrB F w r σ nv R) : Makes 189 #[.pointer (some ⟨r, 0, none⟩)] F w r (({ σ with signs := [] } : RS).fresh 8) nv := by
  refine (readChunk_any r w (R 11) (h.cell 11) (h.unfrozen 11)).mono ?_
  rintro e w' ⟨rfl, rfl⟩
  have hu : Upd (fun k => k = r) w (w.setCell ⟨r, 11, none⟩ (.slice none 0 0)) := Upd.one _ _ _ _
  have h1 : RdrB F (w.setCell ⟨r, 11, none⟩ (.slice none 0 0)) r { σ with signs := [] } nv (fun f => if f = 11 then .slice none 0 0 else R f) :=
    h.upd hu (by have := heap_setCell h.blk 11 (.slice none 0 0); simpa using this) (by rintro f (rfl | rfl | rfl | rfl | rfl | rfl) <;> first | exact .same _ _ | exact .none _ _)
  refine ⟨_, rfl, ?_⟩
  have := made_piece h1 (w := w) (hu.mono (by rintro k _ rfl; exact h.fr)) 8 (by omega)
  rw [size_setCell] at this
  exact this

theorem readName_makes {F : Nat → Prop} {w : World} {r : Nat} {σ : RS} {nv : Value} {R : Nat → Value} (h : RdrB F w r σ nv R) : Makes 184 #[.pointer (some ⟨r, 0, none⟩)] F w r (({ σ with name := [], value := [] } : RS).fresh 5) nv := by
  refine (readName_any r w (R 6) (R 7) (h.cell 6) (h.unfrozen 6) (h.cell 7) (h.unfrozen 7)).mono ?_
  rintro e w' ⟨rfl, rfl⟩
  have hu : Upd (fun k => k = r) w ((w.setCell ⟨r, 6, none⟩ (.slice none 0 0)).setCell ⟨r, 7, none⟩ (.slice none 0 0)) := (Upd.one _ _ _ _).trans (Upd.one _ _ _ _)
  have h1 : RdrB F ((w.setCell ⟨r, 6, none⟩ (.slice none 0 0)).setCell ⟨r, 7, none⟩ (.slice none 0 0)) r { σ with name := [], value := [] } nv (fun f => if f = 6 ∨ f = 7 then .slice none 0 0 else R f) :=
    h.upd hu (by have := heap_setCell (heap_setCell h.blk 6 (.slice none 0 0)) 7 (.slice none 0 0); simpa using this) (by rintro f (rfl | rfl | rfl | rfl | rfl | rfl) <;> first | exact .same _ _ | exact .none _ _)
  refine ⟨_, rfl, ?_⟩
  have := made_piece h1 (w := w) (hu.mono (by rintro k _ rfl; exact h.fr)) 5 (by omega)
  rw [size_setCell, size_setCell] at this
  exact this

theorem readFields_makes {F : Nat → Prop} {w : World} {r : Nat} {σ : RS} {nv : Value} {R : Nat → Value} (h : RdrB F w r σ nv R) : Makes 179 #[.pointer (some ⟨r, 0, none⟩)] F w r { σ with tag := 1 } nv := by
  refine (readFields_any r w).mono ?_
  rintro e w' ⟨rfl, rfl⟩
  refine ⟨_, rfl, fun k => F k ∨ k = w.heap.size, ⟨⟨R, ?_⟩, ?_⟩, (Upd.refl _ _).alloc _, ?_⟩
  · have h1 := h.keep ((Upd.refl (fun _ => False) w).alloc (.cells #[.pointer (some ⟨r, 0, none⟩)] 139)) (fun _ _ h => h)
    have h2 := h1.wider (F' := fun k => F k ∨ k = w.heap.size) (fun k hk => Or.inl hk) (by
      rintro k (hk | rfl)
      · have := h.lt k hk; simp; omega
      · simp)
    exact { h2 with }
  · exact ⟨w.heap.size, rfl, by rw [hpush]; simp, Or.inr rfl⟩
  · rintro k (hk | rfl)
    · exact Or.inl hk
    · right; simp

theorem over_makes {F : Nat → Prop} {w : World} {r : Nat} {σ : RS} {nv : Value} {R : Nat → Value} (h : RdrB F w r σ nv R) : Makes 201 #[] F w r { σ with tag := 0 } nv := by
  refine (over_any w).mono ?_
  rintro e w' ⟨rfl, rfl⟩
  exact ⟨_, rfl, F, ⟨⟨R, { h with }⟩, rfl⟩, Upd.refl _ _, fun k hk => Or.inl hk⟩

theorem made_failed {F : Nat → Prop} {w w1 : World} {r : Nat} {σ : RS} {nv : Value} {R : Nat → Value} (h : RdrB F w1 r σ nv R) (hu : Upd F w w1) (f : Nat) : Made F w (w1.setCell ⟨r, 3, none⟩ (.int .i64 f)) r (σ.failed f) nv .nilFunc := by
  have hu1 : Upd (fun k => k = r) w1 (w1.setCell ⟨r, 3, none⟩ (.int .i64 f)) := Upd.one _ _ _ _
  refine ⟨F, ⟨⟨R, ?_⟩, rfl⟩, hu.trans (hu1.mono (by rintro k _ rfl; exact h.fr)), fun k hk => Or.inl hk⟩
  exact h.upd hu1 (by have := heap_setCell h.blk 3 (.int .i64 f); simpa [RS.failed] using this) (fun f _ => .same _ _)

theorem fail_makes {F : Nat → Prop} {w : World} {r : Nat} {σ : RS} {nv : Value} {R : Nat → Value} (h : RdrB F w r σ nv R) (f : Nat) : Makes 176 #[.pointer (some ⟨r, 0, none⟩), .int .i64 f] F w r (σ.failed f) nv := by
  refine (fail_any r f w _ (h.cell 3) (h.unfrozen 3)).mono ?_
  rintro e w' ⟨rfl, rfl⟩
  exact ⟨_, rfl, made_failed h (Upd.refl _ _) f⟩

end Go.Proofs.YtiiapfkcmdkkoaaGreatDoor
