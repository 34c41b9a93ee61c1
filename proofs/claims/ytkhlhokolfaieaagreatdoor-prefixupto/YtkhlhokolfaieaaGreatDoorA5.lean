import Derived.Test.YtkhlhokolfaieaaGreatDoorA4
/-
  The reader of requests, as plain functions on lists of bytes; and how it lies in memory.
-/
namespace Go.Proofs.YtkhlhokolfaieaaGreatDoor
open Go.RowKit

/-- A reader. tag: 0 over, 1 fields, 2 a counted body, 3 method, 4 path, 5 name, 6 value, 7 the head's end, 8 signs, 9 a chunk, 10 the last chunk's end. ph, kept, met: where a piece stands. -/
structure RS where
  tag : Nat
  sz : Nat
  ph : Nat
  kept : Nat
  met : Nat
  count : Nat
  headOver : Bool
  fault : Nat
  method : List UInt8
  path : List UInt8
  name : List UInt8
  value : List UInt8
  close : Bool
  kind : Nat
  length : Nat
  signs : List UInt8
  body : List UInt8

/-- The lists of a reader, by their fields in memory. -/
def RS.get (σ : RS) : Nat → List UInt8
  | 4 => σ.method
  | 5 => σ.path
  | 6 => σ.name
  | 7 => σ.value
  | 11 => σ.signs
  | _ => σ.body
def RS.push (σ : RS) (f : Nat) (b : UInt8) : RS :=
  match f with
  | 4 => { σ with method := σ.method ++ [b] }
  | 5 => { σ with path := σ.path ++ [b] }
  | 6 => { σ with name := σ.name ++ [b] }
  | 7 => { σ with value := σ.value ++ [b] }
  | 11 => { σ with signs := σ.signs ++ [b] }
  | _ => { σ with body := σ.body ++ [b] }

def RS.fresh (σ : RS) (t : Nat) : RS := { σ with tag := t, ph := 0, kept := 0, met := 0 }
def RS.failed (σ : RS) (f : Nat) : RS := { σ with tag := 0, fault := f }

def leastOf (t sz : Nat) : Nat := match t with | 3 => 1 | 5 => 1 | 8 => 1 | 9 => sz | _ => 0
def mostOf (t sz : Nat) : Nat := match t with | 3 => 8 | 4 => 30 | 5 => 20 | 6 => 200 | 8 => 4 | 9 => sz | _ => 0
def clsOf (t : Nat) (b : UInt8) : Bool := match t with | 3 => isCapB b.toNat | 4 => isPathB b.toNat | 5 => isNameB b.toNat | 6 => isValB b.toNat | 8 => isSignB b.toNat | 9 => true | _ => false
def hasFn (t : Nat) : Nat := match t with | 3 => 105 | 4 => 109 | 5 => 111 | 6 => 122 | 8 => 124 | _ => 133
def fldOf (t : Nat) : Nat := match t with | 3 => 4 | 4 => 5 | 5 => 6 | 6 => 7 | 8 => 11 | _ => 12
def hasV (t : Nat) : Value := match t with | 7 => .nilFunc | 10 => .nilFunc | _ => .func (.func (hasFn t)) #[] #[]
def keepV (r t : Nat) : Value := match t with | 7 => .pointer none | 10 => .pointer none | _ => .pointer (some ⟨r, fldOf t, none⟩)
def endOf (t : Nat) : ByteArray := match t with | 3 => ⟨#[32, 47]⟩ | 4 => ⟨#[32, 72, 84, 84, 80, 47, 49, 46, 49, 13, 10]⟩ | 5 => ⟨#[58]⟩ | 7 => ⟨#[10]⟩ | _ => ⟨#[13, 10]⟩
def nextFn (t : Nat) : Nat := match t with | 3 => 106 | 4 => 110 | 5 => 119 | 6 => 123 | 7 => 114 | 8 => 125 | 9 => 120 | _ => 132
def nextArgs (r t : Nat) : Array Value := match t with | 10 => #[] | _ => #[.pointer (some ⟨r, 0, none⟩)]

/-- The fields that hold rows. -/
def IsRow (f : Nat) : Prop := f = 4 ∨ f = 5 ∨ f = 6 ∨ f = 7 ∨ f = 11 ∨ f = 12

/-- The reader's own cells and rows (R); 'nv' lies in its field next. F: all blocks that are its own. -/
structure RdrB (F : Nat → Prop) (w : World) (r : Nat) (σ : RS) (nv : Value) (R : Nat → Value) : Prop where
  blk : w.heap[r]? = some (.cells #[nv, .int .i64 σ.count, .bool σ.headOver, .int .i64 σ.fault, R 4, R 5, R 6, R 7, .bool σ.close, .int .i64 σ.kind, .int .i64 σ.length, R 11, R 12] 148 (0, 0))
  row : ∀ f, IsRow f → Row w (R f) (σ.get f)
  sep : ∀ f g, IsRow f → IsRow g → f ≠ g → ∀ k, (R f).ownBlock = some k → (R g).ownBlock ≠ some k
  fr : F r
  own : ∀ f, IsRow f → ∀ k, (R f).ownBlock = some k → F k
  lt : ∀ k, F k → k < w.heap.size

/-- What a state's function value is. -/
def CloS (F : Nat → Prop) (w : World) (r : Nat) (σ : RS) (sv : Value) : Prop :=
  match σ.tag with
  | 0 => sv = .nilFunc
  | 1 => ∃ q, sv = .func (.func 112) #[] #[.pointer (some ⟨q, 0, none⟩)] ∧ w.heap[q]? = some (.cells #[.pointer (some ⟨r, 0, none⟩)] 138 (0, 0)) ∧ F q
  | 2 => sv = .func (.func 121) #[.pointer (some ⟨r, 0, none⟩)] #[]
  | t => ∃ B, sv = cloV B ∧ Clo w B r σ.ph σ.kept σ.met (leastOf t σ.sz) (mostOf t σ.sz) (hasV t) (keepV r t) (endOf t) (.func (.func (nextFn t)) (nextArgs r t) #[]) ∧ (∀ k, B ≤ k → k < B + 8 → F k)

/-- The reader as a whole. -/
def Rdr (F : Nat → Prop) (w : World) (r : Nat) (σ : RS) (nv sv : Value) : Prop := (∃ R, RdrB F w r σ nv R) ∧ CloS F w r σ sv

/-- What a call that makes the next state leaves. -/
def Made (F : Nat → Prop) (w w' : World) (r : Nat) (σ' : RS) (nv sv : Value) : Prop := ∃ F', Rdr F' w' r σ' nv sv ∧ Upd F w w' ∧ ∀ k, F' k → F k ∨ (w.heap.size ≤ k ∧ k < w'.heap.size)

theorem RdrB.keep {F M : Nat → Prop} {w w' : World} {r : Nat} {σ : RS} {nv : Value} {R : Nat → Value} (h : RdrB F w r σ nv R) (hu : Upd M w w') (hd : ∀ k, F k → ¬ M k) : RdrB F w' r σ nv R := {
  blk := hu.keep h.blk (hd _ h.fr)
  row := fun f hf => (h.row f hf).keep hu fun k hk => hd k (h.own f hf k hk)
  sep := h.sep
  fr := h.fr
  own := h.own
  lt := fun k hk => Nat.lt_of_lt_of_le (h.lt k hk) hu.size }

theorem CloS.keep {F M : Nat → Prop} {w w' : World} {r : Nat} {σ : RS} {sv : Value} (h : CloS F w r σ sv) (hu : Upd M w w') (hd : ∀ k, F k → ¬ M k) : CloS F w' r σ sv := by
  unfold CloS at h ⊢
  split
  · rename_i e; rw [e] at h; exact h
  · rename_i e; rw [e] at h; obtain ⟨q, h1, h2, h3⟩ := h; exact ⟨q, h1, hu.keep h2 (hd _ h3), h3⟩
  · rename_i e; rw [e] at h; exact h
  · rename_i h0 h1 h2
    split at h
    · rename_i e; exact absurd e h0
    · rename_i e; exact absurd e h1
    · rename_i e; exact absurd e h2
    · obtain ⟨B, e1, e2, e3⟩ := h
      exact ⟨B, e1, e2.keep hu (fun k h1 h2 => hd k (e3 k h1 h2)), e3⟩

theorem Rdr.keep {F M : Nat → Prop} {w w' : World} {r : Nat} {σ : RS} {nv sv : Value} (h : Rdr F w r σ nv sv) (hu : Upd M w w') (hd : ∀ k, F k → ¬ M k) : Rdr F w' r σ nv sv := by
  obtain ⟨⟨R, h1⟩, h2⟩ := h
  exact ⟨⟨R, h1.keep hu hd⟩, h2.keep hu hd⟩

/-- A wider footprint. -/
theorem RdrB.wider {F F' : Nat → Prop} {w : World} {r : Nat} {σ : RS} {nv : Value} {R : Nat → Value} (h : RdrB F w r σ nv R) (hf : ∀ k, F k → F' k) (hl : ∀ k, F' k → k < w.heap.size) : RdrB F' w r σ nv R :=
  { h with fr := hf _ h.fr, own := fun x hx k hk => hf k (h.own x hx k hk), lt := hl }

end Go.Proofs.YtkhlhokolfaieaaGreatDoor
