import Derived.WalkKit
import Derived.WalkSpells
import Derived.WalkLawsBesides
import Derived.Laws.EntriesVeiled
import Derived.WideLaws
import Derived.Deep.RegionLaw
/-
  Worlds that turn in a few blocks alone ('Upd'), rows of bytes of our own ('Row'), and what append does to them.
-/
namespace Go.Proofs.YtohoddhegkjehaaGreatDoor
open Go.RowKit

/-- From w to w' blocks may have come; of those that were there the ones of M alone have turned. -/
structure Upd (M : Nat → Prop) (w w' : World) : Prop where
  os : w'.os = w.os
  tape : w'.tape = w.tape
  output : w'.output = w.output
  size : w.heap.size ≤ w'.heap.size
  block : ∀ k, k < w.heap.size → ¬ M k → w'.heap[k]? = w.heap[k]?

theorem Upd.refl (M : Nat → Prop) (w : World) : Upd M w w := ⟨rfl, rfl, rfl, Nat.le_refl _, fun _ _ _ => rfl⟩
theorem Upd.trans {M : Nat → Prop} {a b c : World} (h : Upd M a b) (k : Upd M b c) : Upd M a c :=
  ⟨k.os.trans h.os, k.tape.trans h.tape, k.output.trans h.output, Nat.le_trans h.size k.size, fun i hi hm => (k.block i (Nat.lt_of_lt_of_le hi h.size) hm).trans (h.block i hi hm)⟩
theorem Upd.mono {M M' : Nat → Prop} {w w' : World} (h : Upd M w w') (hm : ∀ k, k < w.heap.size → M k → M' k) : Upd M' w w' := ⟨h.os, h.tape, h.output, h.size, fun k hk hn => h.block k hk (fun e => hn (hm k hk e))⟩
theorem Upd.alloc {M : Nat → Prop} {a w : World} (h : Upd M a w) (o : Obj) : Upd M a (w.alloc o) :=
  h.trans ⟨rfl, rfl, rfl, by simp, fun k hk _ => Below.heap_alloc _ _ _ hk⟩
theorem Upd.setCell {M : Nat → Prop} {a w : World} (h : Upd M a w) {p : Addr} (hp : p.block < a.heap.size → M p.block) (u : Value) : Upd M a (w.setCell p u) :=
  ⟨h.os, h.tape, h.output, by simpa [World.setCell] using h.size, fun k hk hm => (Below.heap_setCell _ _ _ _ (fun e => hm (by subst e; exact hp hk))).trans (h.block k hk hm)⟩
theorem Upd.drew {M : Nat → Prop} {a w : World} (h : Upd M a w) : Upd M a w.drew := ⟨h.os, h.tape, h.output, h.size, h.block⟩
theorem Upd.drewN {M : Nat → Prop} {a w : World} (h : Upd M a w) (n : Nat) : Upd M a (w.drewN n) := ⟨h.os, h.tape, h.output, h.size, h.block⟩
theorem Upd.grown {M : Nat → Prop} {a w w' : World} {row : Option Nat} (h : Upd M a w) (hg : w.grownBy w' row) (hr : ∀ k, k < a.heap.size → row = some k → M k) : Upd M a w' :=
  ⟨hg.os.trans h.os, hg.tape.trans h.tape, hg.output.trans h.output, Nat.le_trans h.size hg.size, fun k hk hm => (hg.block k (Nat.lt_of_lt_of_le hk h.size) (fun e => hm (hr k hk e.symm))).trans (h.block k hk hm)⟩
theorem Upd.of_below {M : Nat → Prop} {w w' : World} (h : Below w.heap.size w w') : Upd M w w' := ⟨h.os, h.tape, h.output, h.size, fun k hk _ => h.block k hk⟩
theorem Upd.below {M : Nat → Prop} {w w' : World} (h : Upd M w w') {B : Nat} (hB : B ≤ w.heap.size) (hm : ∀ k, k < B → ¬ M k) : Below B w w' := ⟨h.os, h.tape, h.output, h.size, fun k hk => h.block k (by omega) (hm k hk)⟩
theorem Upd.cell {M : Nat → Prop} {w w' : World} (h : Upd M w w') {p : Addr} (hp : p.block < w.heap.size) (hm : ¬ M p.block) : w'.cell? p = w.cell? p := World.cell?_of_block (w := w) (h.block p.block hp hm)
theorem Upd.frozen {M : Nat → Prop} {w w' : World} (h : Upd M w w') {p : Addr} (hp : p.block < w.heap.size) (hm : ¬ M p.block) : w'.frozen? p = w.frozen? p := World.frozen?_of_block (w := w) (h.block p.block hp hm)

theorem lt_of_heap {w : World} {b : Nat} {o : Obj} (h : w.heap[b]? = some o) : b < w.heap.size := (Array.getElem?_eq_some_iff.1 h).1
theorem Upd.keep {M : Nat → Prop} {w w' : World} (h : Upd M w w') {b : Nat} {o : Obj} (hb : w.heap[b]? = some o) (hm : ¬ M b) : w'.heap[b]? = some o := (h.block b (lt_of_heap hb) hm).trans hb

theorem cell_of_heap {w : World} {b : Nat} {c : Array Value} {t : TypeId} {fz : Nat × Nat} (h : w.heap[b]? = some (.cells c t fz)) (i : Nat) : w.cell? ⟨b, i, none⟩ = c[i]? := by simp [World.cell?, h]
theorem unfrozen_of_heap {w : World} {b : Nat} {c : Array Value} {t : TypeId} (h : w.heap[b]? = some (.cells c t (0, 0))) (i : Nat) : w.frozen? ⟨b, i, none⟩ = false := by simp [World.frozen?, h]
theorem heap_setCell {w : World} {b : Nat} {c : Array Value} {t : TypeId} {fz : Nat × Nat} (h : w.heap[b]? = some (.cells c t fz)) (i : Nat) (v : Value) : (w.setCell ⟨b, i, none⟩ v).heap[b]? = some (.cells (c.setIfInBounds i v) t fz) := by
  simp [World.setCell, Array.getElem?_modify, h]

/-- A byte as a value. -/
def byteV (b : UInt8) : Value := .int .u8 (b.toNat : Int)
/-- A row of bytes of our own. -/
def Row (w : World) (v : Value) (bs : List UInt8) : Prop := w.ownsRow 0 5 1 v bs.length (bs.map byteV)

theorem Row.nil (w : World) : Row w (.slice none 0 0) [] := World.ownsRow_nil w 0 _ 1
theorem Row.keep {M : Nat → Prop} {w w' : World} {v : Value} {bs : List UInt8} (h : Row w v bs) (hu : Upd M w w') (hm : ∀ k, v.ownBlock = some k → ¬ M k) : Row w' v bs := by
  refine ⟨h.1, ?_⟩
  rcases h.2 with h2 | ⟨g, cap, cur, hv, hg, hh, r⟩
  · exact Or.inl h2
  · exact Or.inr ⟨g, cap, cur, hv, hg, hu.keep hh (hm g (by rw [hv]; rfl)), r⟩
theorem Row.lt {w : World} {v : Value} {bs : List UInt8} (h : Row w v bs) : ∀ k, v.ownBlock = some k → k < w.heap.size := fun k hk => (World.ownsRow.lt h k hk).2
theorem Row.form {w : World} {v : Value} {bs : List UInt8} (h : Row w v bs) : (v = .slice none 0 0 ∧ bs = []) ∨ ∃ g cap, v = .slice (some ⟨g, 0, none⟩) bs.length cap := by
  rcases h.2 with ⟨h1, h2⟩ | ⟨g, cap, cur, hv, _⟩
  · exact Or.inl ⟨h1, List.eq_nil_of_length_eq_zero h2⟩
  · exact Or.inr ⟨g, cap, hv⟩
/-- A row's block is of bytes. -/
theorem Row.block {w : World} {v : Value} {bs : List UInt8} (h : Row w v bs) : ∀ k, v.ownBlock = some k → ∃ cur, w.heap[k]? = some (.cells cur 5 (0, 0)) := by
  intro k hk
  rcases h.2 with ⟨h1, _⟩ | ⟨g, cap, cur, hv, _, hh, _⟩
  · rw [h1] at hk; cases hk
  · rw [hv] at hk; cases hk; exact ⟨cur, hh⟩

/-- append onto a row of our own: what comes, and where it lies. -/
theorem run_append_row {P : Program} (w : World) (t ty : TypeId) (i : TypeInfo) (ht : P.underlying t = some (.slice 5)) (hi : P.info? 5 = some i) (hz : i.zero = some (.int .u8 0)) (hsize : i.size = 1) (hby : i.bytes = 1)
    (v : Value) (bs : List UInt8) (hown : Row w v bs) (a : Addr) (m c : Nat) (news : List UInt8) (hl : news.length = m) (hnews : ∀ j u, (news.map byteV)[j]? = some u → w.cell? (a.add j) = some u) (hb : bs.length + m ≤ 140737488355328) :
    ∃ v' w', (Builtin.append_ #[t, t] ty #[v, .slice (some a) m c]).run P w = .ok v' w' ∧ Row w' v' (bs ++ news) ∧ w.grownBy w' v.ownBlock ∧ (∀ k, v'.ownBlock = some k → v.ownBlock = some k ∨ w.heap.size ≤ k) ∧ (v' = .slice none 0 0 ↔ v = .slice none 0 0 ∧ m = 0) := by
  have h1 : ∀ u ∈ news.map byteV, u.oneCell' = true := by intro u hu; obtain ⟨b, _, rfl⟩ := List.mem_map.1 hu; rfl
  have h63 : bs.length + m ≤ maxLen := by unfold maxLen; omega
  have hl' : (news.map byteV).length = m * 1 := by simp [hl]
  obtain ⟨v', w', hr, ho, hg, hn⟩ := run_append_own (P := P) w 0 t ty 5 i (.int .u8 0) 1 1 ht hi hz hsize hby rfl (by decide) v bs.length (bs.map byteV) hown a m c (news.map byteV) hl' hnews h1 h63 (by omega) (Nat.zero_le _)
  refine ⟨v', w', hr, ?_, hg, ?_, hn⟩
  · unfold Row; rw [List.map_append, List.length_append, hl]; exact ho
  · intro k hk
    rcases hown.2 with ⟨hv, hz0⟩ | ⟨g, cap, cur, hv, _, hh, hnc, hcm, hcs, htake⟩
    · right
      subst hv
      have hbs : bs = [] := List.eq_nil_of_length_eq_zero hz0
      subst hbs
      obtain ⟨v2, w2, hr2, ho2, _⟩ := run_append_own (P := P) w w.heap.size t ty 5 i (.int .u8 0) 1 1 ht hi hz hsize hby rfl (by decide) (.slice none 0 0) 0 [] (World.ownsRow_nil _ _ _ _) a m c (news.map byteV) hl' hnews h1 (by simpa using h63) (by simp at hb; omega) (Nat.le_refl _)
      rw [hr] at hr2
      cases hr2
      exact (World.ownsRow.lt ho2 k hk).1
    · by_cases hroom : bs.length + m ≤ cap
      · left
        have hr2 := run_append_room (P := P) w t ty 5 i ht hi g bs.length cap cur hh a m c (news.map byteV) (by rw [hsize]; exact hl') hnews h1 hroom (by rw [hsize, List.length_map, hl, hcs]; omega)
        rw [hv] at hr
        rw [hr] at hr2
        cases hr2
        rw [hv]
        exact hk
      · right
        have holds := World.ownsRow.cells hown (g := g) (by rw [hv]; rfl)
        obtain ⟨v2, w2, hr2, ho2, _⟩ := run_append_arg_grows (P := P) w t ty 5 i (.int .u8 0) 1 1 ht hi hz hsize hby rfl (by decide) ⟨g, 0, none⟩ bs.length cap (bs.map byteV) (by simp) holds a m c (news.map byteV) hl' hnews (by omega) h63 (by omega)
        rw [hv] at hr
        rw [hr] at hr2
        cases hr2
        exact (World.ownsRow.lt ho2 k hk).1

end Go.Proofs.YtohoddhegkjehaaGreatDoor
