import Derived.Test.YtohoddhegkjehaaGreatDoorD9
import Derived.Deep.AppendSrc
/-
  append of a string's bytes onto a row of our own.
-/
namespace Go.Proofs.YtohoddhegkjehaaGreatDoor
open Go.RowKit

theorem setCells_row (g : Nat) (t : TypeId) (fz : Nat × Nat) : ∀ (vs : List Value) (o : Nat) (w : World) (cur : Array Value), w.heap[g]? = some (.cells cur t fz) → o + vs.length ≤ cur.size →
    ∃ cur', (w.setCells g o vs).heap[g]? = some (.cells cur' t fz) ∧ cur'.size = cur.size ∧ cur'.toList.take (o + vs.length) = cur.toList.take o ++ vs ∧ Upd (fun k => k = g) w (w.setCells g o vs)
  | [], o, w, cur, h, _ => ⟨cur, h, rfl, by simp, Upd.refl _ _⟩
  | v :: vs, o, w, cur, h, hl => by
    have hl' : o + 1 + vs.length ≤ cur.size := by simp at hl; omega
    obtain ⟨cur', h1, h2, h3, h4⟩ := setCells_row g t fz vs (o + 1) (w.setCell ⟨g, o, none⟩ v) (cur.setIfInBounds o v) (heap_setCell h o v) (by simpa using hl')
    refine ⟨cur', h1, by simpa using h2, ?_, (Upd.one w g o v).trans h4⟩
    have e : o + (v :: vs).length = o + 1 + vs.length := by simp; omega
    rw [e, h3, Array.toList_setIfInBounds]
    have ho : o < cur.toList.length := by rw [Array.length_toList]; omega
    rw [List.take_succ_eq_append_getElem (by simpa using ho), List.take_set_of_le (Nat.le_refl _)]
    simp

theorem run_append_str {P : Program} (w : World) (t tx ty : TypeId) (i : TypeInfo) (ht : P.underlying t = some (.slice 5)) (hx : P.underlying tx = some .string) (hi : P.info? 5 = some i) (hz : i.zero = some (.int .u8 0)) (hsize : i.size = 1) (hby : i.bytes = 1)
    (v : Value) (bs : List UInt8) (hown : Row w v bs) (l : List UInt8) (hl : l ≠ []) (hb : bs.length + l.length ≤ 140737488355328) :
    ∃ v' w', (Builtin.append_ #[t, tx] ty #[v, .string ⟨l.toArray⟩]).run P w = .ok v' w' ∧ Row w' v' (bs ++ l) ∧ w.grownBy w' v.ownBlock ∧ (∀ k, v'.ownBlock = some k → v.ownBlock = some k ∨ w.heap.size ≤ k) := by
  have hsrc : Src P i.size tx (.string ⟨l.toArray⟩) l.length (l.map byteV) w := by
    rw [hsize]
    have := Src.ofString (P := P) w hx ⟨l.toArray⟩
    rw [← size_list] at this
    simp only [byteCells] at this
    exact this
  have hpos : 0 < l.length := List.length_pos_iff.2 hl
  have grown : ∀ (base : Option Addr) (cap : Nat), (Builtin.firstCells i.size bs.length (.slice base bs.length cap)).run P w.drew = .ok (bs.map byteV).toArray w.drew → cap < bs.length + l.length →
      ∃ v' w', (Builtin.append_ #[t, tx] ty #[.slice base bs.length cap, .string ⟨l.toArray⟩]).run P w = .ok v' w' ∧ Row w' v' (bs ++ l) ∧ (∀ row, w.grownBy w' row) ∧ (∀ k, v'.ownBlock = some k → w.heap.size ≤ k) := by
    intro base cap hold hcap
    have hr := run_append_grow_src (P := P) w t tx ty 5 i (.int .u8 0) ht hi hz base bs.length cap (bs.map byteV) hold (.string ⟨l.toArray⟩) l.length (l.map byteV) hsrc hcap (by omega) (growslice_fits hcap (by rw [hby]; omega))
    refine ⟨_, _, hr, ?_, fun row => ⟨rfl, rfl, rfl, by simp, fun k hk _ => heap_alloc_old w.drew _ hk⟩, fun k hk => ?_⟩
    · have hge := grownCap_ge w (bs.length + l.length) cap 5
      have hcm := grownCap_le_maxLen w (bs.length + l.length) cap 5 (by unfold maxLen; omega)
      unfold Row
      refine ⟨by simp, Or.inr ⟨w.heap.size, _, _, by rw [List.length_append], Nat.zero_le _, heap_alloc_new w.drew _, by rw [List.length_append]; exact hge, hcm, ?_, ?_⟩⟩
      · simp only [Array.size_append, List.size_toArray, size_zeroCells, List.length_append, List.length_map]
        have : (Value.int IntKind.u8 0).cells.size = 1 := rfl
        rw [this]; omega
      · simp only [Array.toList_append, List.length_append, Nat.mul_one]
        rw [List.take_append_of_le_length (by simp), List.take_of_length_le (by simp)]
        simp
    · cases hk; exact Nat.le_refl _
  rcases hown.2 with ⟨hv, hz0⟩ | ⟨g, cap, cur, hv, _, hh, hnc, hcm, hcs, htake⟩
  · obtain rfl : bs = [] := List.eq_nil_of_length_eq_zero hz0
    subst hv
    obtain ⟨v', w', h1, h2, h3, h4⟩ := grown none 0 (run_firstCells_none _ _ _ _ _) (by simpa using hpos)
    exact ⟨v', w', h1, h2, h3 _, fun k hk => Or.inr (h4 k hk)⟩
  · subst hv
    have holds := World.ownsRow.cells hown (g := g) rfl
    by_cases hroom : bs.length + l.length ≤ cap
    · have hcur : bs.length + l.length ≤ cur.size := by rw [hcs]; omega
      obtain ⟨cur', k1, k2, k3, k4⟩ := setCells_row g 5 (0, 0) (l.map byteV) bs.length w cur hh (by simpa using hcur)
      have hr := run_append_room_src (P := P) w t tx ty 5 i ht hi g 0 bs.length cap (.string ⟨l.toArray⟩) l.length (l.map byteV) hsrc hroom (by
        intro j hj
        rw [cell_of_heap hh]
        have : 0 + bs.length * i.size + j < cur.size := by rw [hsize]; simp at hj; omega
        rw [Array.getElem?_eq_getElem this]; rfl) (by intro j _; exact unfrozen_of_heap hh _)
      have e0 : 0 + bs.length * i.size = bs.length := by rw [hsize]; omega
      rw [e0] at hr
      refine ⟨_, _, hr, ⟨by simp, Or.inr ⟨g, cap, cur', by rw [List.length_append], Nat.zero_le _, k1, by rw [List.length_append]; exact hroom, hcm, by rw [k2, hcs], ?_⟩⟩, ⟨k4.os, k4.tape, k4.output, k4.size, fun k hk hn => k4.block k hk (fun e => hn (by rw [e]; rfl))⟩, fun k hk => Or.inl hk⟩
      rw [List.length_append, Nat.mul_one, List.map_append]
      have := k3
      rw [List.length_map] at this
      rw [this]
      rw [Nat.mul_one] at htake
      rw [htake]
    · obtain ⟨v', w', h1, h2, h3, h4⟩ := grown (some ⟨g, 0, none⟩) cap (run_firstCells_some w.drew i.size bs.length ⟨g, 0, none⟩ bs.length cap (bs.map byteV) (by rw [hsize]; simp) (by simpa using holds)) (by omega)
      exact ⟨v', w', h1, h2, h3 _, fun k hk => Or.inr (h4 k hk)⟩

/-- ... as one step of a region that draws. -/
theorem step_append_str {ops : Array Oper} {o : Oper} {a : Act} {w : World} {K : Act → World → Prop} {Q : Exit → Act → World → Prop} {E : Prop}
    (hg : o.guard = none) (s x : Operand) (hop : o.op = Op.call { callee := Callee.builtin Builtin.append, args := #[s, x], argTypes := #[56, 9] })
    (v : Value) (bs : List UInt8) (hs : a.eval s = v) (hown : Row w v bs) (l : List UInt8) (hx : a.eval x = .string ⟨l.toArray⟩) (hl : l ≠ []) (hb : bs.length + l.length ≤ 140737488355328)
    (hK : ∀ v' w', Row w' v' (bs ++ l) → w.grownBy w' v.ownBlock → (∀ k, v'.ownBlock = some k → v.ownBlock = some k ∨ w.heap.size ≤ k) → K (a.put o.dst v') w') :
    if Region.wanted o (yielded ops a.tmps) = true then Oper.wp Tryz.prog o a w K Q else E := by
  have hw : Region.wanted o (yielded ops a.tmps) = true := by simp [Region.wanted, hg]
  rw [if_pos hw]
  obtain ⟨i0, hi, hz0, hz1, hz2⟩ := info_parts Tryz.info5
  obtain ⟨v', w', hrun, r1, r2, r3⟩ := run_append_str (P := Tryz.prog) w 56 9 o.type i0 Tryz.und56 Tryz.und9 hi hz0 hz1 hz2 v bs hown l hl hb
  unfold Oper.wp
  simp [execOp, hop, resolve, invoke, builtin, hs, hx, hrun, Result.andThen]
  exact hK v' w' r1 r2 r3

end Go.Proofs.YtohoddhegkjehaaGreatDoor
