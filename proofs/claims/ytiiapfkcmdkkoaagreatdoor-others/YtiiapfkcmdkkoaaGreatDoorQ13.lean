import Derived.Test.YtiiapfkcmdkkoaaGreatDoorQ12
import Derived.Deep.AppendSrc
import Derived.LoopN
import Derived.Deep.DeepCutAuto
import Derived.Shelf.SlicesE.Delete
import Derived.Ground.SlgnProg
import Derived.Lib.RowBridge
/-
  append of a string's bytes onto a row of our own.
-/
namespace Go.Proofs.YtiiapfkcmdkkoaaGreatDoor
open Go.RowKit

theorem setCells_row (g : Nat) (t : TypeId) (fz : Nat × Nat) : ∀ (vs : List Value) (o : Nat) (w : World) (cur : Array Value), w.heap[g]? = some (.cells cur t fz) → o + vs.length ≤ cur.size →
    ∃ cur', (w.setCells g o vs).heap[g]? = some (.cells cur' t fz) ∧ cur'.size = cur.size ∧ cur'.toList.take (o + vs.length) = cur.toList.take o ++ vs ∧ Upd (fun k => k = g) w (w.setCells g o vs)
  | [], o, w, cur, h, _ => ⟨cur, h, rfl, by simp, Upd.refl _ _⟩
  | v :: vs, o, w, cur, h, hl => by
    have hl' : o + 1 + vs.length ≤ cur.size := by simp at hl; omega
    obtain ⟨cur', h1, h2, h3, h4⟩ := setCells_row g t fz vs (o + 1) (w.setCell ⟨g, o, none⟩ v) (cur.setIfInBounds o v) (heap_setCell h o v) (by simpa using hl')
    refine ⟨cur', h1, by simpa using h2, ?_, (Upd.one w g o v).trans h4⟩
    have e : o + (v :: vs).length = o + 1 + vs.length := by simp; omega
    rw [e, h3, Array.toList_setIfInBounds]
    have ho : o < cur.toList.length := by rw [Array.length_toList]; omega
    rw [List.take_succ_eq_append_getElem (by simpa using ho), List.take_set_of_le (Nat.le_refl _)]
    simp

theorem run_append_str {P : Program} (w : World) (t tx ty : TypeId) (i : TypeInfo) (ht : P.underlying t = some (.slice 5)) (hx : P.underlying tx = some .string) (hi : P.info? 5 = some i) (hz : i.zero = some (.int .u8 0)) (hsize : i.size = 1) (hby : i.bytes = 1)
    (v : Value) (bs : List UInt8) (hown : Row w v bs) (l : List UInt8) (hl : l ≠ []) (hb : bs.length + l.length ≤ 140737488355328) :
    ∃ v' w', (Builtin.append_ #[t, tx] ty #[v, .string ⟨l.toArray⟩]).run P w = .ok v' w' ∧ Row w' v' (bs ++ l) ∧ w.grownBy w' v.ownBlock ∧ (∀ k, v'.ownBlock = some k → v.ownBlock = some k ∨ w.heap.size ≤ k) := by
  have hsrc : Src P i.size tx (.string ⟨l.toArray⟩) l.length (l.map byteV) w := by
    rw [hsize]
    have := Src.ofString (P := P) w hx ⟨l.toArray⟩
    rw [← size_list] at this
    simp only [byteCells] at this
    exact this
  have hpos : 0 < l.length := List.length_pos_iff.2 hl
  have grown : ∀ (base : Option Addr) (cap : Nat), (Builtin.firstCells i.size bs.length (.slice base bs.length cap)).run P w.drew = .ok (bs.map byteV).toArray w.drew → cap < bs.length + l.length →
      ∃ v' w', (Builtin.append_ #[t, tx] ty #[.slice base bs.length cap, .string ⟨l.toArray⟩]).run P w = .ok v' w' ∧ Row w' v' (bs ++ l) ∧ (∀ row, w.grownBy w' row) ∧ (∀ k, v'.ownBlock = some k → w.heap.size ≤ k) := by
    intro base cap hold hcap
    have hr := run_append_grow_src (P := P) w t tx ty 5 i (.int .u8 0) ht hi hz base bs.length cap (bs.map byteV) hold (.string ⟨l.toArray⟩) l.length (l.map byteV) hsrc hcap (by omega) (growslice_fits hcap (by rw [hby]; omega))
    refine ⟨_, _, hr, ?_, fun row => ⟨rfl, rfl, rfl, by simp, fun k hk _ => heap_alloc_old w.drew _ hk⟩, fun k hk => ?_⟩
    · have hge := grownCap_ge w (bs.length + l.length) cap 5
      have hcm := grownCap_le_maxLen w (bs.length + l.length) cap 5 (by unfold maxLen; omega)
      unfold Row
      refine ⟨by simp, Or.inr ⟨w.heap.size, _, _, by rw [List.length_append], Nat.zero_le _, heap_alloc_new w.drew _, by rw [List.length_append]; exact hge, hcm, ?_, ?_⟩⟩
      · simp only [Array.size_append, List.size_toArray, size_zeroCells, List.length_append, List.length_map]
        have : (Value.int IntKind.u8 0).cells.size = 1 := rfl
        rw [this]; omega
      · simp only [Array.toList_append, List.length_append, Nat.mul_one]
        rw [List.take_append_of_le_length (by simp), List.take_of_length_le (by simp)]
        simp
    · cases hk; exact Nat.le_refl _
  rcases hown.2 with ⟨hv, hz0⟩ | ⟨g, cap, cur, hv, _, hh, hnc, hcm, hcs, htake⟩
  · obtain rfl : bs = [] := List.eq_nil_of_length_eq_zero hz0
    subst hv
    obtain ⟨v', w', h1, h2, h3, h4⟩ := grown none 0 (run_firstCells_none _ _ _ _ _) (by simpa using hpos)
    exact ⟨v', w', h1, h2, h3 _, fun k hk => Or.inr (h4 k hk)⟩
  · subst hv
    have holds := World.ownsRow.cells hown (g := g) rfl
    by_cases hroom : bs.length + l.length ≤ cap
    · have hcur : bs.length + l.length ≤ cur.size := by rw [hcs]; omega
      obtain ⟨cur', k1, k2, k3, k4⟩ := setCells_row g 5 (0, 0) (l.map byteV) bs.length w cur hh (by simpa using hcur)
      have hr := run_append_room_src (P := P) w t tx ty 5 i ht hi g 0 bs.length cap (.string ⟨l.toArray⟩) l.length (l.map byteV) hsrc hroom (by
        intro j hj
        rw [cell_of_heap hh]
        have : 0 + bs.length * i.size + j < cur.size := by rw [hsize]; simp at hj; omega
        rw [Array.getElem?_eq_getElem this]; rfl) (by intro j _; exact unfrozen_of_heap hh _)
      have e0 : 0 + bs.length * i.size = bs.length := by rw [hsize]; omega
      rw [e0] at hr
      refine ⟨_, _, hr, ⟨by simp, Or.inr ⟨g, cap, cur', by rw [List.length_append], Nat.zero_le _, k1, by rw [List.length_append]; exact hroom, hcm, by rw [k2, hcs], ?_⟩⟩, ⟨k4.os, k4.tape, k4.output, k4.size, fun k hk hn => k4.block k hk (fun e => hn (by rw [e]; rfl))⟩, fun k hk => Or.inl hk⟩
      rw [List.length_append, Nat.mul_one, List.map_append]
      have := k3
      rw [List.length_map] at this
      rw [this]
      rw [Nat.mul_one] at htake
      rw [htake]
    · obtain ⟨v', w', h1, h2, h3, h4⟩ := grown (some ⟨g, 0, none⟩) cap (run_firstCells_some w.drew i.size bs.length ⟨g, 0, none⟩ bs.length cap (bs.map byteV) (by rw [hsize]; simp) (by simpa using holds)) (by omega)
      exact ⟨v', w', h1, h2, h3 _, fun k hk => Or.inr (h4 k hk)⟩

/-- ... as one step of a region that draws. -/
theorem step_append_str {ops : Array Oper} {o : Oper} {a : Act} {w : World} {K : Act → World → Prop} {Q : Exit → Act → World → Prop} {E : Prop}
    (hg : o.guard = none) (s x : Operand) (hop : o.op = Op.call { callee := Callee.builtin Builtin.append, args := #[s, x], argTypes := #[70, 9] })
    (v : Value) (bs : List UInt8) (hs : a.eval s = v) (hown : Row w v bs) (l : List UInt8) (hx : a.eval x = .string ⟨l.toArray⟩) (hl : l ≠ []) (hb : bs.length + l.length ≤ 140737488355328)
    (hK : ∀ v' w', Row w' v' (bs ++ l) → w.grownBy w' v.ownBlock → (∀ k, v'.ownBlock = some k → v.ownBlock = some k ∨ w.heap.size ≤ k) → K (a.put o.dst v') w') :
    if Region.wanted o (yielded ops a.tmps) = true then Oper.wp Tryz.prog o a w K Q else E := by
  have hw : Region.wanted o (yielded ops a.tmps) = true := by simp [Region.wanted, hg]
  rw [if_pos hw]
  obtain ⟨i0, hi, hz0, hz1, hz2⟩ := info_parts Tryz.info5
  obtain ⟨v', w', hrun, r1, r2, r3⟩ := run_append_str (P := Tryz.prog) w 70 9 o.type i0 Tryz.und70 Tryz.und9 hi hz0 hz1 hz2 v bs hown l hl hb
  unfold Oper.wp
  simp [execOp, hop, resolve, invoke, builtin, hs, hx, hrun, Result.andThen]
  exact hK v' w' r1 r2 r3

end Go.Proofs.YtiiapfkcmdkkoaaGreatDoor

/-
  A queue of bytes: size, add. (q lies at an offset of a block.)
-/
namespace Go.Proofs.YtiiapfkcmdkkoaaGreatDoor
open Go.RowKit Go.MapKept


theorem row_slice {w : World} {v : Value} {bs : List UInt8} (h : Row w v bs) : ∃ ao cp, v = .slice ao bs.length cp := by
  rcases h.form with ⟨h1, h2⟩ | ⟨g, cap, h1⟩
  · subst h2; exact ⟨_, _, h1⟩
  · exact ⟨_, _, h1⟩

theorem row_slice2 {w : World} {v : Value} {bs : List UInt8} (h : Row w v bs) : ∃ ao cp, v = .slice ao bs.length cp ∧ bs.length ≤ cp := by
  rcases h.2 with ⟨h1, h2⟩ | ⟨g', cap', cur, hv, _, hh, hnc, hcm, hcs, htake⟩
  · have : bs.length = 0 := by simpa using h2
    exact ⟨none, 0, by rw [h1, this], by omega⟩
  · exact ⟨_, _, hv, hnc⟩

theorem run_append_empty {P : Program} (w : World) (t tx ty : TypeId) (i : TypeInfo) (ht : P.underlying t = some (.slice 5)) (hx : P.underlying tx = some .string) (hi : P.info? 5 = some i) (hsize : i.size = 1) (v : Value) (bs : List UInt8) (h : Row w v bs) :
    (Builtin.append_ #[t, tx] ty #[v, .string ⟨#[]⟩]).run P w = .ok v w := by
  have hsrc : Src P i.size tx (.string ⟨#[]⟩) 0 [] w := by
    rw [hsize]
    exact Src.ofString (P := P) w hx ⟨#[]⟩
  rcases h.2 with ⟨rfl, h1⟩ | ⟨g, cap, cur, rfl, _, hh, hnc, hcm, hcs, htake⟩
  · rcases hsrc.kind with ⟨e', hk⟩ | hk <;> simp [Builtin.append_, run_underlying ht, run_underlying hk, sizeOf, typeInfo, hi, hsrc.len, hsrc.cells]
  · have := run_append_room_src (P := P) w t tx ty 5 i ht hi g 0 bs.length cap (.string ⟨#[]⟩) 0 [] hsrc (by omega) (by intro j hj; simp at hj) (by intro j hj; simp at hj)
    rw [this]
    rfl

/-- append of whatever string onto a row of our own. -/
theorem run_append_any {P : Program} (w : World) (t tx ty : TypeId) (i : TypeInfo) (ht : P.underlying t = some (.slice 5)) (hx : P.underlying tx = some .string) (hi : P.info? 5 = some i) (hz : i.zero = some (.int .u8 0)) (hsize : i.size = 1) (hby : i.bytes = 1)
    (v : Value) (bs : List UInt8) (hown : Row w v bs) (l : List UInt8) (hb : bs.length + l.length ≤ 140737488355328) :
    ∃ v' w', (Builtin.append_ #[t, tx] ty #[v, .string ⟨l.toArray⟩]).run P w = .ok v' w' ∧ Row w' v' (bs ++ l) ∧ Upd (fun k => v.ownBlock = some k) w w' ∧ (∀ k, v'.ownBlock = some k → v.ownBlock = some k ∨ w.heap.size ≤ k) := by
  by_cases hl : l = []
  · subst hl
    exact ⟨v, w, run_append_empty w t tx ty i ht hx hi hsize v bs hown, by simpa using hown, Upd.refl _ _, fun k hk => Or.inl hk⟩
  · obtain ⟨v', w', h1, h2, h3, h4⟩ := run_append_str (P := P) w t tx ty i ht hx hi hz hsize hby v bs hown l hl hb
    exact ⟨v', w', h1, h2, (Upd.refl _ w).grown h3 (fun k _ h => h), h4⟩

theorem step_append_any {ops : Array Oper} {o : Oper} {a : Act} {w : World} {K : Act → World → Prop} {Q : Exit → Act → World → Prop} {E : Prop}
    (hg : o.guard = none) (s x : Operand) (hop : o.op = Op.call { callee := Callee.builtin Builtin.append, args := #[s, x], argTypes := #[70, 9] })
    (v : Value) (bs : List UInt8) (hs : a.eval s = v) (hown : Row w v bs) (l : List UInt8) (hx : a.eval x = .string ⟨l.toArray⟩) (hb : bs.length + l.length ≤ 140737488355328)
    (hK : ∀ v' w', Row w' v' (bs ++ l) → Upd (fun k => v.ownBlock = some k) w w' → (∀ k, v'.ownBlock = some k → v.ownBlock = some k ∨ w.heap.size ≤ k) → K (a.put o.dst v') w') :
    if Region.wanted o (yielded ops a.tmps) = true then Oper.wp Tryz.prog o a w K Q else E := by
  have hw : Region.wanted o (yielded ops a.tmps) = true := by simp [Region.wanted, hg]
  rw [if_pos hw]
  obtain ⟨i0, hi, hz0, hz1, hz2⟩ := info_parts Tryz.info5
  obtain ⟨v', w', hrun, r1, r2, r3⟩ := run_append_any (P := Tryz.prog) w 70 9 o.type i0 Tryz.und70 Tryz.und9 hi hz0 hz1 hz2 v bs hown l hb
  unfold Oper.wp
  simp [execOp, hop, resolve, invoke, builtin, hs, hx, hrun, Result.andThen]
  exact hK v' w' r1 r2 r3

theorem wpList_append_any {ops : Array Oper} {rest : List Oper} {o : Oper} {a : Act} {w : World} {Q : Exit → Act → World → Prop}
    (hg : o.guard = none) (s x : Operand) (hop : o.op = Op.call { callee := Callee.builtin Builtin.append, args := #[s, x], argTypes := #[70, 9] })
    (v : Value) (bs : List UInt8) (hs : a.eval s = v) (hown : Row w v bs) (l : List UInt8) (hx : a.eval x = .string ⟨l.toArray⟩) (hb : bs.length + l.length ≤ 140737488355328)
    (hK : ∀ v' w', Row w' v' (bs ++ l) → Upd (fun k => v.ownBlock = some k) w w' → (∀ k, v'.ownBlock = some k → v.ownBlock = some k ∨ w.heap.size ≤ k) → wpList Tryz.prog ops Q rest (a.put o.dst v') w') :
    wpList Tryz.prog ops Q (o :: rest) a w := by
  refine wpList_plain hg fun K hK' => ?_
  obtain ⟨i0, hi, hz0, hz1, hz2⟩ := info_parts Tryz.info5
  obtain ⟨v', w', hrun, r1, r2, r3⟩ := run_append_any (P := Tryz.prog) w 70 9 o.type i0 Tryz.und70 Tryz.und9 hi hz0 hz1 hz2 v bs hown l hb
  unfold Oper.wp
  simp [execOp, hop, resolve, invoke, builtin, hs, hx, hrun, Result.andThen]
  exact hK' _ _ (hK v' w' r1 r2 r3)

/-- A queue in the block b: the rows of its cells; what is left of a change of it. -/
structure Qu (w : World) (b i : Nat) (cs : Array Value) (t : TypeId) (v : Value) (bs : List UInt8) : Prop where
  blk : w.heap[b]? = some (.cells cs t (0, 0))
  at_ : cs[i]? = some v
  row : Row w v bs
  ty : t ≠ 5
theorem Qu.cell {w : World} {b i : Nat} {cs : Array Value} {t : TypeId} {v : Value} {bs : List UInt8} (h : Qu w b i cs t v bs) : w.cell? ⟨b, i, none⟩ = some v := (cell_of_heap h.blk i).trans h.at_
theorem Qu.far {w : World} {b i : Nat} {cs : Array Value} {t : TypeId} {v : Value} {bs : List UInt8} (h : Qu w b i cs t v bs) : v.ownBlock ≠ some b := h.row.far h.blk h.ty
theorem Qu.keep {w w' : World} {b i : Nat} {cs : Array Value} {t : TypeId} {v : Value} {bs : List UInt8} (h : Qu w b i cs t v bs) (hu : Same w w') : Qu w' b i cs t v bs := ⟨hu.keep h.blk (fun h => h), h.at_, h.row.keep hu (fun _ _ h => h), h.ty⟩

def QAt (w wx : World) (b i : Nat) (cs : Array Value) (t : TypeId) (v : Value) (bs : List UInt8) : Prop :=
  ∃ v', Row wx v' bs ∧ wx.heap[b]? = some (.cells (cs.setIfInBounds i v') t (0, 0)) ∧ Upd (fun k => k = b ∨ v.ownBlock = some k) w wx ∧ (∀ k, v'.ownBlock = some k → v.ownBlock = some k ∨ (w.heap.size ≤ k ∧ k < wx.heap.size))

theorem QAt.of {w w5 w6 : World} {b i : Nat} {cs : Array Value} {t : TypeId} {v v' : Value} {bs bs' : List UInt8} (h : Qu w b i cs t v bs) (hu5 : Same w w5) (hr : Row w6 v' bs') (hu : Upd (fun k => v.ownBlock = some k) w5 w6) (hf : ∀ k, v'.ownBlock = some k → v.ownBlock = some k ∨ w5.heap.size ≤ k) :
    QAt w (w6.setCell ⟨b, i, none⟩ v') b i cs t v bs' := by
  have hoc := h.far
  have U : Upd (fun k => v.ownBlock = some k) w w6 := (hu5.mono (fun _ _ h => h.elim)).trans hu
  have hc6 : w6.heap[b]? = some (.cells cs t (0, 0)) := U.keep h.blk hoc
  refine ⟨v', hr.keep (Upd.one w6 b i v') (by rintro k hk rfl; exact hr.far hc6 h.ty hk), heap_setCell hc6 i v', (U.mono (fun k _ h => Or.inr h)).trans ((Upd.one _ _ _ _).mono (fun k _ h => Or.inl h)), fun k hk => ?_⟩
  rcases hf k hk with h1 | h1
  · exact Or.inl h1
  · right; rw [size_setCell]; exact ⟨Nat.le_trans hu5.size h1, hr.lt k hk⟩
theorem QAt.after {w w1 w2 : World} {b i : Nat} {cs : Array Value} {t : TypeId} {v : Value} {bs : List UInt8} (hu : Same w w1) (h : QAt w1 w2 b i cs t v bs) : QAt w w2 b i cs t v bs := by
  obtain ⟨v', h1, h2, h3, h4⟩ := h
  refine ⟨v', h1, h2, (hu.mono (fun _ _ h => h.elim)).trans h3, fun k hk => ?_⟩
  rcases h4 k hk with h5 | h5
  · exact Or.inl h5
  · right; have := hu.size; omega
theorem QAt.behind {w w1 w2 : World} {b i : Nat} {cs : Array Value} {t : TypeId} {v : Value} {bs : List UInt8} (h : QAt w w1 b i cs t v bs) (hu : Same w1 w2) : QAt w w2 b i cs t v bs := by
  obtain ⟨v', h1, h2, h3, h4⟩ := h
  refine ⟨v', h1.keep hu (fun _ _ h => h), hu.keep h2 (fun h => h), h3.trans (hu.mono (fun _ _ h => h.elim)), fun k hk => ?_⟩
  rcases h4 k hk with h5 | h5
  · exact Or.inl h5
  · right; have := hu.size; omega

set_option maxHeartbeats 400000 in
theorem qsize_any {w : World} {b i : Nat} {cs : Array Value} {t : TypeId} {v : Value} {bs : List UInt8} (h : Hid (Qu w b i cs t v bs)) :
    Calls Tryz.prog 63 #[.pointer (some ⟨b, i, none⟩)] w fun e w' => e = .returned (.int .i64 bs.length) ∧ Same w w' := by
  have c0 := h.out.cell
  obtain ⟨ao, cp, rfl⟩ := row_slice h.out.row
  go_enter Tryz.func63, Tryz.ntmps63
  go_wp2
  go_ret
  exact ⟨rfl, Upd.refl _ w⟩

set_option maxHeartbeats 800000 in
set_option maxRecDepth 100000 in
theorem qadd_any {w : World} {b i : Nat} {cs : Array Value} {t : TypeId} {v : Value} {bs : List UInt8} (h : Hid (Qu w b i cs t v bs)) (l : List UInt8) (hb : bs.length + l.length ≤ 1000000) :
    Calls Tryz.prog 111 #[.pointer (some ⟨b, i, none⟩), .string ⟨l.toArray⟩] w fun e w' => e = .returned (.tuple #[]) ∧ QAt w w' b i cs t v (bs ++ l) := by
  have c0 := h.out.cell
  go_enter Tryz.func111, Tryz.ntmps111
  go_wp2_with (at_builtin; refine wpList_append_any rfl (.tmp 8) (.tmp 9) rfl v bs rfl h.out.row l rfl (by omega) ?_)
  intro v' w' r1 r2 r3
  have HE := hid (QAt.of h.out (Upd.refl _ w) r1 r2 r3)
  have hb' : w'.heap[b]? = some (.cells cs t (0, 0)) := r2.keep h.out.blk h.out.far
  have d0 : w'.cell? ⟨b, i, none⟩ = some v := (cell_of_heap hb' i).trans h.out.at_
  have g0 : w'.frozen? ⟨b, i, none⟩ = false := unfrozen_of_heap hb' i
  obtain ⟨ao, cp, rfl⟩ := row_slice r1
  rw [List.length_append] at HE
  clear r1 r2 r3 hb'
  go_wp2
  exact bodyPost_end (v := .tuple #[]) (by simp [results, Tryz.results111, go_sem]) rfl ⟨rfl, HE.out⟩

end Go.Proofs.YtiiapfkcmdkkoaaGreatDoor

/-
  slices.Delete at the front of a row of our own.
-/
namespace Go.Proofs.YtiiapfkcmdkkoaaGreatDoor
open Go.RowKit Go.MapKept

def encB (b : UInt8) : Value := byteV b
theorem encB_one : OneCell encB := fun _ => rfl

set_option maxHeartbeats 400000 in
set_option maxRecDepth 100000 in
theorem delete_none (w : World) (v : Value) (bs : List UInt8) (h : Row w v bs) :
    Calls Tryz.prog 76 #[v, .int .i64 0, .int .i64 0] w fun e w' => e = .returned v ∧ w' = w := by
  rcases h.form with ⟨rfl, _⟩ | ⟨g, cap, rfl⟩
  · clear h
    go_enter Tryz.func76, Tryz.ntmps76
    go_wp2
    all_goals (go_ret; exact ⟨rfl, rfl⟩)
  · have hc : bs.length ≤ cap := by
      rcases h.2 with ⟨h1, _⟩ | ⟨g', cap', cur, hv, _, hh, hnc, hcm, hcs, htake⟩
      · simp at h1
      · simp at hv; omega
    clear h
    go_enter Tryz.func76, Tryz.ntmps76
    go_wp2
    all_goals (go_ret; exact ⟨rfl, rfl⟩)

/-- The first n elements are dropped. -/
theorem delete_front (w : World) (v : Value) (bs : List UInt8) (h : Row w v bs) (n : Nat) (hn : n ≤ bs.length) :
    Calls Tryz.prog 76 #[v, .int .i64 0, .int .i64 n] w fun e w' => ∃ v', e = .returned v' ∧ Row w' v' (bs.drop n) ∧ Upd (fun k => v.ownBlock = some k) w w' ∧ v'.ownBlock = v.ownBlock := by
  by_cases h0 : n = 0
  · subst h0
    refine (delete_none w v bs h).mono ?_
    rintro e w' ⟨rfl, rfl⟩
    exact ⟨v, rfl, by simpa using h, Upd.refl _ _, rfl⟩
  · rcases h.2 with ⟨_, h1⟩ | ⟨g, cap, cur, rfl, _, hh, hnc, hcm, hcs, htake⟩
    · omega
    · have hcells := World.ownsRow.cells h (g := g) rfl
      have hH : Sort.Holds encB w g 0 bs.toArray := by
        intro j hj
        have hj' : j < bs.length := by simpa using hj
        refine ⟨?_, unfrozen_of_heap hh _⟩
        rw [Nat.zero_add]
        have := hcells j (byteV bs[j]) (by simp [hj'])
        have e : (⟨g, 0, none⟩ : Addr).add j = ⟨g, j, none⟩ := by simp [Addr.add]; intro h; exact h.symm
        rw [e] at this
        rw [this]
        simp [encB, hj']
      have := AnyE.slices_Delete Tryz.layDel encB encB_one 0 (fun w => by kernel_rfl) (info_parts Tryz.info5).choose (info_parts Tryz.info5).choose_spec.1 (info_parts Tryz.info5).choose_spec.2.2.1 g 0 cap 0 n bs.toArray w hH (by simpa using hnc) (by unfold maxLen at hcm; omega) (by omega) (by simpa using hn)
      simp only [List.size_toArray, List.take_zero, List.nil_append, Nat.sub_zero] at this
      refine Calls.mono (show Calls Tryz.prog 76 _ _ _ from this) ?_
      rintro e w' ⟨rfl, q, rfl⟩
      have hlen : (bs.drop n ++ List.replicate n (0 : UInt8)).length = bs.length := by simp; omega
      rw [Lib.putRow_eq_setCells encB w g 0 bs.toArray _ q hH (by simpa using hlen)]
      have hh' : (w.drewN q).heap[g]? = some (.cells cur 5 (0, 0)) := hh
      obtain ⟨cur', k1, k2, k3, k4⟩ := setCells_row g 5 (0, 0) ((bs.drop n ++ List.replicate n (0 : UInt8)).map encB) 0 (w.drewN q) cur hh' (by rw [List.length_map, hlen]; omega)
      refine ⟨_, rfl, ⟨by simp, Or.inr ⟨g, cap, cur', by simp, Nat.zero_le _, k1, by simp; omega, hcm, by rw [k2, hcs], ?_⟩⟩, ((Upd.refl _ w).drewN q).trans (k4.mono (by rintro k _ rfl; rfl)), rfl⟩
      rw [List.length_map, hlen, Nat.zero_add, List.take_zero, List.nil_append, List.map_append] at k3
      have hd : (bs.drop n).length * 1 ≤ bs.length := by simp
      have e1 : cur'.toList.take ((bs.drop n).length * 1) = (cur'.toList.take bs.length).take ((bs.drop n).length * 1) := by rw [List.take_take, Nat.min_eq_left hd]
      rw [e1, k3, Nat.mul_one]
      have e2 : (bs.drop n).length = ((bs.drop n).map encB).length := by simp
      rw [e2, List.take_left]
      rfl

end Go.Proofs.YtiiapfkcmdkkoaaGreatDoor
