import Derived.Test.YtohoddhegkjehaaGreatDoorE0
/-
  What a connection does: resting's read; the connection in memory.
-/
namespace Go.Proofs.YtohoddhegkjehaaGreatDoor
open Go.RowKit Go.MapKept

/-- A byte is read where nothing was. -/
def RestStep (w w' : World) (σ' : RS) (e : Ending) : Prop :=
  ∃ r F', Rd F' w' r σ' ∧ Upd (fun _ => False) w w' ∧ (∀ k, F' k → w.heap.size ≤ k ∧ k < w'.heap.size) ∧
    ((σ'.tag ≠ 0 ∧ e = .returned (.tuple #[readingV r, .pointer none])) ∨ (σ'.tag = 0 ∧ ∃ p, e = .returned (.tuple #[restingV, .pointer (some ⟨p, 0, none⟩)]) ∧ w'.heap[p]? = some (.cells (reqCells σ'.req) 103 (0, 0)) ∧ w.heap.size ≤ p ∧ p < w'.heap.size))

theorem good_start : Good RS.start := {
  tag := by decide
  met := fun _ => by decide
  ph := by decide
  kept := fun _ => by decide
  least := fun _ h => by exact absurd h (by decide)
  size := by rintro f (rfl | rfl | rfl | rfl | rfl | rfl) <;> decide
  room := fun _ => by decide
  name := by intro c hc; cases hc
  value := by intro c hc; cases hc
  signs := by intro c hc; cases hc
  four := by decide
  got := fun h => by exact absurd h (by decide)
  len := by decide }

set_option maxHeartbeats 800000 in
theorem restingRead_any (w : World) (b : UInt8) (g2 : Hid (Good (RS.start.read b))) :
    Calls Tryz.prog 101 #[.agg #[], .int .u8 b.toNat] w fun e w' => RestStep w w' (RS.start.read b) e := by
  have hU0 : Upd (fun _ => False) w (w.alloc (.cells #[] 53)) := (Upd.refl _ w).alloc _
  have HU0 := hid hU0
  clear hU0
  go_enter Tryz.func101, Tryz.ntmps101
  go_wp2_with fail
  refine (newReader_any _).mono ?_
  rintro e w1 ⟨rfl, ⟨F1, hr1, hf1⟩, hu1⟩
  have HR1 := hid hr1
  have HF1 := hid hf1
  have HU1 := hid (HU0.out.trans hu1)
  have hsz : (w.alloc (.cells #[] 53)).heap.size = w.heap.size + 1 := by simp
  rw [hsz] at HR1 HF1
  have HSZ := hid hsz
  clear hr1 hf1 hu1 hsz
  go_wp2_with fail
  refine (readingRead_any b HR1 (hid good_start) g2 (by decide) (by decide)).mono ?_
  rintro e w2 hst
  have HE : Hid (RestStep w w2 (RS.start.read b) e) := by
    obtain ⟨F2, k1, k2, k3, k4⟩ := hst
    refine ⟨w.heap.size + 1, F2, k1, ⟨k2.os.trans HU1.out.os, k2.tape.trans HU1.out.tape, k2.output.trans HU1.out.output, Nat.le_trans HU1.out.size k2.size, fun k hk _ => (k2.block k (Nat.lt_of_lt_of_le hk HU1.out.size) (fun e => ?_)).trans (HU1.out.block k hk (fun h => h))⟩, fun k hk => ?_, ?_⟩
    · have := HF1.out k e; omega
    · rcases k3 k hk with h1 | h1
      · have := HF1.out k h1; have := k2.size; omega
      · have := HU1.out.size; omega
    · rcases k4 with k4 | ⟨k5, p, k6, k7, k8, k9⟩
      · exact Or.inl k4
      · exact Or.inr ⟨k5, p, k6, k7, by have := HU1.out.size; omega, k9⟩
  obtain ⟨F2, k1, k2, k3, k4⟩ := id hst
  clear hst k1 k2 k3
  rcases k4 with ⟨_, rfl⟩ | ⟨_, p, rfl, _⟩
  · unfold readingV at *
    go_wp2
    go_ret2
    exact HE.out
  · unfold restingV at *
    go_wp2
    go_ret2
    exact HE.out

/-- A connection: what it does (0 rests, 1 reads, 2 leaves), its reader, what waits to be read and to be taken. -/
structure CX where
  kind : Nat
  σ : RS
  unread : List UInt8
  out : List UInt8

def Doing (F : Nat → Prop) (w : World) (c : Nat) (uv ov : Value) (x : CX) (dv : Value) : Prop :=
  (x.kind = 0 ∧ dv = restingV) ∨ (x.kind = 1 ∧ x.σ.tag ≠ 0 ∧ Good x.σ ∧ ∃ r Fr, dv = readingV r ∧ Rd Fr w r x.σ ∧ ∀ k, Fr k → F k ∧ k ≠ c ∧ uv.ownBlock ≠ some k ∧ ov.ownBlock ≠ some k) ∨ (x.kind = 2 ∧ dv = leavingV)

/-- The connection in memory, in the blocks F. -/
structure Cn (F : Nat → Prop) (w : World) (c : Nat) (x : CX) (dv uv ov : Value) : Prop where
  blk : w.heap[c]? = some (.cells #[dv, uv, ov] 63 (0, 0))
  ru : Row w uv x.unread
  ro : Row w ov x.out
  sep : ∀ k, uv.ownBlock = some k → ov.ownBlock ≠ some k
  fc : F c
  fu : ∀ k, uv.ownBlock = some k → F k
  fo : ∀ k, ov.ownBlock = some k → F k
  lt : ∀ k, F k → k < w.heap.size
  doing : Doing F w c uv ov x dv

theorem Cn.keep {F M : Nat → Prop} {w w' : World} {c : Nat} {x : CX} {dv uv ov : Value} (h : Cn F w c x dv uv ov) (hu : Upd M w w') (hd : ∀ k, F k → ¬ M k) : Cn F w' c x dv uv ov := {
  blk := hu.keep h.blk (hd _ h.fc)
  ru := h.ru.keep hu fun k hk => hd k (h.fu k hk)
  ro := h.ro.keep hu fun k hk => hd k (h.fo k hk)
  sep := h.sep
  fc := h.fc
  fu := h.fu
  fo := h.fo
  lt := fun k hk => Nat.lt_of_lt_of_le (h.lt k hk) hu.size
  doing := by
    rcases h.doing with h1 | ⟨h1, h2, h3, r, Fr, h4, h5, h6⟩ | h1
    · exact Or.inl h1
    · exact Or.inr (Or.inl ⟨h1, h2, h3, r, Fr, h4, h5.keep hu (fun k hk => hd k (h6 k hk).1), h6⟩)
    · exact Or.inr (Or.inr h1) }

end Go.Proofs.YtohoddhegkjehaaGreatDoor

/-
  Server.read.
-/
namespace Go.Proofs.YtohoddhegkjehaaGreatDoor
open Go.RowKit Go.MapKept

def ReadAny (G : Nat → Prop) (w w' : World) (σ' : RS) (e : Ending) : Prop :=
  ∃ r F', Rd F' w' r σ' ∧ Upd G w w' ∧ (∀ k, F' k → G k ∨ (w.heap.size ≤ k ∧ k < w'.heap.size)) ∧
    ((σ'.tag ≠ 0 ∧ e = .returned (.tuple #[readingV r, .pointer none])) ∨ (σ'.tag = 0 ∧ ∃ p, e = .returned (.tuple #[restingV, .pointer (some ⟨p, 0, none⟩)]) ∧ w'.heap[p]? = some (.cells (reqCells σ'.req) 103 (0, 0)) ∧ w.heap.size ≤ p ∧ p < w'.heap.size))

/-- The reader that a byte comes to. -/
def CX.rd (x : CX) : RS := if x.kind = 0 then RS.start else x.σ

/-- What the connection's next byte does, called through the interface. -/
theorem doing_calls {F : Nat → Prop} {w : World} {c : Nat} {x : CX} {dv uv ov : Value} (h : Cn F w c x dv uv ov) (hk : x.kind ≠ 2) (hct : x.σ.count ≤ 1000000000) (b : UInt8) (g2 : Good (x.rd.read b)) :
    ∃ ty rv f G, dv = .iface ty rv ∧ (∀ W : World, (method 321 ty rv "hearth/hearth.read").run Tryz.prog W = .ok (f, rv) W) ∧ Ent f ∧ (∀ k, G k → F k ∧ k ≠ c ∧ uv.ownBlock ≠ some k ∧ ov.ownBlock ≠ some k) ∧
      Calls Tryz.prog f #[rv, .int .u8 b.toNat] w fun e w' => ReadAny G w w' (x.rd.read b) e := by
  rcases h.doing with ⟨h1, rfl⟩ | ⟨h1, h2, h3, r, Fr, rfl, h5, h6⟩ | ⟨h1, _⟩
  · have e : x.rd = RS.start := by unfold CX.rd; rw [if_pos h1]
    rw [e] at g2 ⊢
    refine ⟨_, _, 101, fun _ => False, rfl, fun W => by kernel_rfl, enters_of Tryz.func101 (by kernel_rfl) rfl, fun k h => h.elim, ?_⟩
    refine (restingRead_any w b (hid g2)).mono ?_
    rintro e w' ⟨r, F', k1, k2, k3, k4⟩
    exact ⟨r, F', k1, k2, fun k hk => Or.inr (k3 k hk), k4⟩
  · have e : x.rd = x.σ := by unfold CX.rd; rw [if_neg (by omega)]
    rw [e] at g2 ⊢
    refine ⟨_, _, 103, Fr, rfl, fun W => by kernel_rfl, enters_of Tryz.func103 (by kernel_rfl) rfl, h6, ?_⟩
    refine (readingRead_any b (hid h5) (hid h3) (hid g2) h2 hct).mono ?_
    rintro e w' ⟨F', k1, k2, k3, k4⟩
    exact ⟨r, F', k1, k2, k3, k4⟩
  · exact absurd h1 hk

end Go.Proofs.YtohoddhegkjehaaGreatDoor
