import Derived.Test.YtkhlhokolfaieaaGreatDoorD1
import Derived.Test.YtkhlhokolfaieaaGreatDoorC1
/-
  Package store.
-/
namespace Go.Proofs.YtkhlhokolfaieaaGreatDoor
open Go.RowKit Go.MapKept

/-- Texts by their targets. -/
abbrev Texts := List (List UInt8 × List UInt8)
def strV (l : List UInt8) : Value := .string ⟨l.toArray⟩
def entV (l : List UInt8) : Value := .agg #[.string ⟨l.toArray⟩]

theorem strV_key (a : List UInt8) : IsKey .string (strV a) := trivial
theorem strV_inj (a b : List UInt8) (h : strV a = strV b) : a = b := by
  unfold strV at h
  injection h with h
  injection h with h
  exact List.toArray_inj h

theorem Tryz.und78 : Tryz.prog.underlying 78 = some (.map 9 107) := by kernel_rfl
theorem zero_entry (w : World) : (zeroValue 107).run Tryz.prog w = .ok (.agg #[.string ⟨#[]⟩]) w := by kernel_rfl

/-- The store in memory: its block s, its map's block m; u bytes are kept. -/
structure Sto (w : World) (s m : Nat) (L : Texts) (u : Int) : Prop where
  blk : w.heap[s]? = some (.cells #[.map (some m), .int .i64 u] 80 (0, 0))
  map : ∃ es clock, w.heap[m]? = some (.map es clock) ∧ Ents strV entV es L

theorem Sto.keep {M : Nat → Prop} {w w' : World} {s m : Nat} {L : Texts} {u : Int} (h : Sto w s m L u) (hu : Upd M w w') (h1 : ¬ M s) (h2 : ¬ M m) : Sto w' s m L u := by
  obtain ⟨es, clock, h3, h4⟩ := h.map
  exact ⟨hu.keep h.blk h1, es, clock, hu.keep h3 h2, h4⟩

theorem Sto.look {w : World} {s m : Nat} {L : Texts} {u : Int} (h : Sto w s m L u) (t : List UInt8) : (Instr.lookup 78 (.map (some m)) (.string ⟨t.toArray⟩) true).run Tryz.prog w = .ok (.tuple #[.agg #[.string ⟨((aget L t).getD []).toArray⟩], .bool (aget L t).isSome]) w := by
  obtain ⟨es, clock, h3, h4⟩ := h.map
  have := run_lookup_ents (P := Tryz.prog) (w := w) Tryz.und78 Tryz.und9 strV_key strV_inj (zero_entry w) h3 h4 t
  rw [show strV t = .string ⟨t.toArray⟩ from rfl] at this
  rw [this]
  cases aget L t <;> rfl

set_option maxHeartbeats 400000 in
theorem get_any {w : World} {s m : Nat} {L : Texts} {u : Int} (h : Hid (Sto w s m L u)) (t : List UInt8) :
    Calls Tryz.prog 65 #[.pointer (some ⟨s, 0, none⟩), .string ⟨t.toArray⟩] w fun e w' => e = .returned (.tuple #[.string ⟨((aget L t).getD []).toArray⟩, .bool (aget L t).isSome]) ∧ Upd (fun _ => False) w w' := by
  have c0 : w.cell? ⟨s, 0, none⟩ = some (.map (some m)) := cell_of_heap h.out.blk 0
  have hl := h.out.look t
  generalize (aget L t).isSome = b at hl ⊢
  generalize (aget L t).getD [] = x at hl ⊢
  go_enter Tryz.func65, Tryz.ntmps65
  go_wp2
  go_ret2
  exact ⟨rfl, (Upd.refl _ _).alloc _⟩

/-- How many bytes a target and its text take. -/
def takenOf (L : Texts) (t : List UInt8) : Int := match aget L t with | some x => (t.length : Int) + x.length | none => 0

theorem takenOf_bd (L : Texts) (t : List UInt8) (h : ∀ p ∈ L, p.2.length ≤ 100) (ht : t.length ≤ 1000) : 0 ≤ takenOf L t ∧ takenOf L t ≤ 1100 := by
  unfold takenOf
  split
  · rename_i x e
    unfold aget at e
    obtain ⟨p, hp, rfl⟩ := Option.map_eq_some_iff.1 e
    have := h p (List.mem_of_getElem? hp)
    omega
  · omega

set_option maxHeartbeats 400000 in
theorem taken_any {w : World} {s m : Nat} {L : Texts} {u : Int} (h : Hid (Sto w s m L u)) (t : List UInt8) (ht : t.length ≤ 1000) (hL : ∀ p ∈ L, p.2.length ≤ 100) :
    Calls Tryz.prog 69 #[.pointer (some ⟨s, 0, none⟩), .string ⟨t.toArray⟩] w fun e w' => e = .returned (.int .i64 (takenOf L t)) ∧ Upd (fun _ => False) w w' := by
  have c0 : w.cell? ⟨s, 0, none⟩ = some (.map (some m)) := cell_of_heap h.out.blk 0
  have hl := h.out.look t
  cases hg : aget L t with
  | none =>
    have HT : Hid (takenOf L t = 0) := by show _ = _; unfold takenOf; rw [hg]
    rw [hg] at hl
    simp only [Option.isSome_none, Option.getD_none] at hl
    clear hg hL
    go_enter Tryz.func69, Tryz.ntmps69
    go_wp2
    go_ret
    exact ⟨ret_int HT.out.symm, (Upd.refl _ _).alloc _⟩
  | some x =>
    have hx : x.length ≤ 100 := by
      unfold aget at hg
      obtain ⟨p, hp, rfl⟩ := Option.map_eq_some_iff.1 hg
      exact hL p (List.mem_of_getElem? hp)
    have HT : Hid (takenOf L t = (t.length : Int) + x.length) := by show _ = _; unfold takenOf; rw [hg]
    rw [hg] at hl
    simp only [Option.isSome_some, Option.getD_some] at hl
    clear hg hL
    go_enter Tryz.func69, Tryz.ntmps69
    go_wp2
    go_ret
    exact ⟨ret_int (by rw [HT.out]), (Upd.refl _ _).alloc _⟩

set_option maxHeartbeats 400000 in
theorem storeNew_any (w : World) :
    Calls Tryz.prog 20 #[] w fun e w' => e = .returned (.pointer (some ⟨w.heap.size + 1, 0, none⟩)) ∧ Sto w' (w.heap.size + 1) w.heap.size [] 0 ∧ Upd (fun _ => False) w w' ∧ w'.heap.size = w.heap.size + 2 := by
  have hmk : ∀ W : World, (Instr.makeMap 78 none).run Tryz.prog W = .ok (.map (some W.heap.size)) (W.alloc (.map #[] 0)) := fun W => by simp [Instr.makeMap, Result.andThen]
  go_enter Tryz.func20, Tryz.ntmps20
  go_wp2
  go_ret
  refine ⟨rfl, ⟨?_, #[], 0, ?_, rfl⟩, ((Upd.refl _ _).alloc _).alloc _, by simp⟩
  · simp only [hpush, Array.getElem?_push, Array.size_push]; repeat (first | rw [if_pos trivial] | rw [if_pos (by omega)] | rw [if_neg (by omega)])
  · simp only [hpush, Array.getElem?_push, Array.size_push]; repeat (first | rw [if_pos trivial] | rw [if_pos (by omega)] | rw [if_neg (by omega)])

end Go.Proofs.YtkhlhokolfaieaaGreatDoor
