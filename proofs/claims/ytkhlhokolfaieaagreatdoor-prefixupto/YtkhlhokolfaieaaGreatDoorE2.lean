import Derived.Test.YtkhlhokolfaieaaGreatDoorE1
/-
  Server.read.
-/
namespace Go.Proofs.YtkhlhokolfaieaaGreatDoor
open Go.RowKit Go.MapKept

def ReadAny (G : Nat → Prop) (w w' : World) (σ' : RS) (e : Ending) : Prop :=
  ∃ r F', Rd F' w' r σ' ∧ Upd G w w' ∧ (∀ k, F' k → G k ∨ (w.heap.size ≤ k ∧ k < w'.heap.size)) ∧
    ((σ'.tag ≠ 0 ∧ e = .returned (.tuple #[readingV r, .pointer none])) ∨ (σ'.tag = 0 ∧ ∃ p, e = .returned (.tuple #[restingV, .pointer (some ⟨p, 0, none⟩)]) ∧ w'.heap[p]? = some (.cells (reqCells σ'.req) 93 (0, 0)) ∧ w.heap.size ≤ p ∧ p < w'.heap.size))

/-- The reader that a byte comes to. -/
def CX.rd (x : CX) : RS := if x.kind = 0 then RS.start else x.σ

/-- What the connection's next byte does, called through the interface. -/
theorem doing_calls {F : Nat → Prop} {w : World} {c : Nat} {x : CX} {dv uv ov : Value} (h : Cn F w c x dv uv ov) (hk : x.kind ≠ 2) (hct : x.σ.count ≤ 1000000000) (b : UInt8) (g2 : Good (x.rd.read b)) :
    ∃ ty rv f G, dv = .iface ty rv ∧ (∀ W : World, (method 312 ty rv "hearth/hearth.read").run Tryz.prog W = .ok (f, rv) W) ∧ Ent f ∧ (∀ k, G k → F k ∧ k ≠ c ∧ uv.ownBlock ≠ some k ∧ ov.ownBlock ≠ some k) ∧
      Calls Tryz.prog f #[rv, .int .u8 b.toNat] w fun e w' => ReadAny G w w' (x.rd.read b) e := by
  rcases h.doing with ⟨h1, rfl⟩ | ⟨h1, h2, h3, r, Fr, rfl, h5, h6⟩ | ⟨h1, _⟩
  · have e : x.rd = RS.start := by unfold CX.rd; rw [if_pos h1]
    rw [e] at g2 ⊢
    refine ⟨_, _, 98, fun _ => False, rfl, fun W => by kernel_rfl, enters_of Tryz.func98 (by kernel_rfl) rfl, fun k h => h.elim, ?_⟩
    refine (restingRead_any w b (hid g2)).mono ?_
    rintro e w' ⟨r, F', k1, k2, k3, k4⟩
    exact ⟨r, F', k1, k2, fun k hk => Or.inr (k3 k hk), k4⟩
  · have e : x.rd = x.σ := by unfold CX.rd; rw [if_neg (by omega)]
    rw [e] at g2 ⊢
    refine ⟨_, _, 100, Fr, rfl, fun W => by kernel_rfl, enters_of Tryz.func100 (by kernel_rfl) rfl, h6, ?_⟩
    refine (readingRead_any b (hid h5) (hid h3) (hid g2) h2 hct).mono ?_
    rintro e w' ⟨F', k1, k2, k3, k4⟩
    exact ⟨r, F', k1, k2, k3, k4⟩
  · exact absurd h1 hk

end Go.Proofs.YtkhlhokolfaieaaGreatDoor
