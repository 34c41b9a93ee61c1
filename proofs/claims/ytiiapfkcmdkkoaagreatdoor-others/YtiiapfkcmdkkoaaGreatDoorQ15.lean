import Derived.Test.YtiiapfkcmdkkoaaGreatDoorQ14
import Derived.Test.YtiiapfkcmdkkoaaGreatDoorQ03
import Derived.Deep.LoopGhost
import Derived.Deep.QuietTactic
import Derived.BigQuiet
import Derived.Shelf.Abstract
import Derived.Laws.CopyRow
/-
  slices.IndexFunc and slices.DeleteFunc at deadlines, with Clear's function.
-/
namespace Go.Proofs.YtiiapfkcmdkkoaaGreatDoor
open Go.RowKit Go.MapKept

/-- The function that asks whether it is this deadline; it keeps the deadline in the block D. -/
def cloF (D : Nat) : Value := .func (.func 78) #[] #[.pointer (some ⟨D, 0, none⟩)]
def Boxed (w : World) (D : Nat) (d : Dl) : Prop := w.heap[D]? = some (.cells #[.int .i64 d.1, .int .i64 d.2] 62 (0, 0))
theorem Boxed.keep {M : Nat → Prop} {w w' : World} {D : Nat} {d : Dl} (h : Boxed w D d) (hu : Upd M w w') (hm : ¬ M D) : Boxed w' D d := hu.keep h hm

set_option maxHeartbeats 400000 in
theorem clo_any {w : World} {D : Nat} {d : Dl} (hD : Boxed w D d) (o : Dl) :
    Calls Tryz.prog 78 #[dlV o, .pointer (some ⟨D, 0, none⟩)] w fun e w' => e = .returned (.bool (o == d)) ∧ Same w w' := by
  have c0 : w.cell? ⟨D, 0, none⟩ = some (.int .i64 d.1) := cell_of_heap hD 0
  have c1 : w.cell? ⟨D, 1, none⟩ = some (.int .i64 d.2) := cell_of_heap hD 1
  have hlt := lt_of_heap hD
  have hq : ∀ W, (binOp .eql 62 (.agg #[.int .i64 o.1, .int .i64 o.2]) (.agg #[.int .i64 d.1, .int .i64 d.2])).run Tryz.prog W = .ok (.bool (o == d)) W := fun W => by
    rw [run_eql_struct]
    have := dl_eql o d W
    unfold dlV at this
    rw [this]; rfl
  generalize (o == d) = q at hq ⊢
  unfold dlV
  go_enter Tryz.func78, Tryz.ntmps78
  go_wp2
  go_ret
  exact ⟨rfl, by first | exact Upd.refl _ w | exact (Upd.refl _ w).alloc _⟩


theorem entClo : Ent 78 := enters_of Tryz.func78 (by kernel_rfl) rfl
/-- The cells of a row. -/
theorem DRow.cells {w : World} {g cap : Nat} {ds : List Dl} (h : DRow w (.slice (some ⟨g, 0, none⟩) ds.length cap) ds) {j : Nat} (hj : j < ds.length) : w.cell? ⟨g, j * 2, none⟩ = some (.int .i64 ds[j].1) ∧ w.cell? ⟨g, j * 2 + 1, none⟩ = some (.int .i64 ds[j].2) := by
  have hc := World.ownsRow.cells h (g := g) rfl
  have hg := dlCells_get ds j ds[j] (List.getElem?_eq_getElem hj)
  have h0 := hc _ _ hg.1
  have h1 := hc _ _ hg.2
  have a0 : (⟨g, 0, none⟩ : Addr).add (j * 2) = ⟨g, j * 2, none⟩ := by
    unfold Addr.add
    split
    · rename_i e
      have : j * 2 = 0 := by simpa using e
      rw [this]
    · simp
  have a1 : (⟨g, 0, none⟩ : Addr).add (j * 2 + 1) = ⟨g, j * 2 + 1, none⟩ := by simp [Addr.add]
  rw [a0] at h0
  rw [a1] at h1
  exact ⟨h0, h1⟩
theorem findIdx_lt_ne {ds : List Dl} {d : Dl} {k : Nat} (h : k < ds.length) (hk : k < ds.findIdx (· == d)) : (ds[k] == d) = false := by
  have := List.not_of_lt_findIdx hk
  simpa using this

set_option maxHeartbeats 1600000 in
set_option maxRecDepth 100000 in
theorem idxf_any {w : World} {v : Value} {ds : List Dl} {D : Nat} {d : Dl} (hr : Hid (DRow w v ds)) (hD : Hid (Boxed w D d)) (hn : ds.length ≤ 1000000) :
    Calls Tryz.prog 107 #[v, cloF D] w fun e w' => e = .returned (.int .i64 (if ds.findIdx (· == d) < ds.length then (ds.findIdx (· == d) : Int) else -1)) ∧ Same w w' := by
  rcases hr.out.2 with ⟨rfl, h0⟩ | ⟨g, cap, cur, rfl, _, hh, hnc, hcm, hcs, htake⟩
  · have hds : ds = [] := List.eq_nil_of_length_eq_zero h0
    subst hds
    unfold cloF
    go_enter Tryz.func107, Tryz.ntmps107
    go_wp2_with fail
    go_loopw [8] (fun i wr => i = .int .i64 0 ∧ wr = w) (fun _ _ => 0)
    case atStart => exact ⟨rfl, rfl⟩
    case round =>
      obtain ⟨rfl, rfl⟩ := hrel
      go_wp2
      go_ret
      exact ⟨by first | rfl | simp, Upd.refl _ _⟩
  · have HX : Hid (∀ j, (h : j < ds.length) → ∀ W, Same w W → W.cell? ⟨g, j * 2, none⟩ = some (.int .i64 ds[j].1) ∧ W.cell? ⟨g, j * 2 + 1, none⟩ = some (.int .i64 ds[j].2)) := fun j hj W hW => (hr.out.keep hW (fun _ _ h => h)).cells hj
    have HK : Hid (∀ W, Same w W → ∀ o, Calls Tryz.prog 78 #[dlV o, .pointer (some ⟨D, 0, none⟩)] W fun e w' => e = .returned (.bool (o == d)) ∧ Same W w') := fun W hW o => clo_any (hD.out.keep hW (fun h => h)) o
    have hent := entClo
    have HF := hid (fun (k : Nat) (h : k < ds.length) (hk : k < ds.findIdx (· == d)) => findIdx_lt_ne h hk)
    have HG : Hid (∀ (h : ds.findIdx (· == d) < ds.length), (ds[ds.findIdx (· == d)] == d) = true) := fun h => List.findIdx_getElem (w := h)
    have HL : Hid (ds.findIdx (· == d) ≤ ds.length) := List.findIdx_le_length
    generalize ds.findIdx (· == d) = m at HF HG HL ⊢
    have hml := HL.out
    clear hr hD htake hcs hh HL
    unfold cloF
    go_enter Tryz.func107, Tryz.ntmps107
    go_wp2_with fail
    go_loopw [8] (fun i wr => ∃ k : Nat, i = .int .i64 k ∧ k ≤ m ∧ Hid (Same w wr)) (fun i _ => ds.length - (intOf i).toNat)
    case atStart => exact ⟨0, rfl, Nat.zero_le _, Upd.refl _ _⟩
    case round =>
      obtain ⟨k, rfl, hk, hu⟩ := hrel
      by_cases hlt : k < ds.length
      · obtain ⟨e0, e1⟩ := HX.out k hlt wr hu.out
        have HC := hid (HK.out wr hu.out ds[k])
        unfold dlV at HC
        by_cases hkm : k < m
        · have hb := HF.out k hlt hkm
          rw [hb] at HC
          generalize ds[k] = o at e0 e1 HC
          clear hb
          go_wp2_with fail
          refine HC.out.mono ?_
          rintro e w1 ⟨rfl, hu1⟩
          have HU := hid (hu.out.trans hu1)
          clear hu1 HC
          go_wp2
          exact ⟨⟨k + 1, by go_num, by omega, HU⟩, by simp [intOf]; omega⟩
        · obtain rfl : k = m := by omega
          have hb := HG.out hlt
          rw [hb] at HC
          generalize ds[k] = o at e0 e1 HC
          clear hb HG HF
          go_wp2_with fail
          refine HC.out.mono ?_
          rintro e w1 ⟨rfl, hu1⟩
          have HU := hid (hu.out.trans hu1)
          clear hu1 HC
          go_wp2
          go_ret
          exact ⟨rfl, HU.out⟩
      · obtain rfl : k = ds.length := by omega
        obtain rfl : m = ds.length := by omega
        go_wp2
        go_ret
        exact ⟨rfl, hu.out⟩

end Go.Proofs.YtiiapfkcmdkkoaaGreatDoor

/-
  slices.DeleteFunc at deadlines.
-/
namespace Go.Proofs.YtiiapfkcmdkkoaaGreatDoor
open Go.RowKit Go.MapKept

abbrev pNot (d : Dl) : Dl → Bool := fun o => !(o == d)

/-- The row between two rounds: i of j are kept. -/
structure DSt (w wr : World) (g cap : Nat) (ds : List Dl) (d : Dl) (i j : Nat) (cs : List Dl) (rest : List Value) : Prop where
  blk : wr.heap[g]? = some (.cells (dlCells cs ++ rest).toArray 62 (0, 0))
  len : cs.length = ds.length
  rst : rest.length = (cap - ds.length) * 2
  le : i < j ∧ j ≤ ds.length
  kept : cs.take i = (ds.take j).filter (pNot d)
  left : cs.drop j = ds.drop j
  upd : Upd (fun k => k = g) w wr

theorem DSt.same {w wr w1 : World} {g cap : Nat} {ds : List Dl} {d : Dl} {i j : Nat} {cs : List Dl} {rest : List Value} (h : DSt w wr g cap ds d i j cs rest) (hu : Same wr w1) : DSt w w1 g cap ds d i j cs rest :=
  ⟨hu.keep h.blk (fun h => h), h.len, h.rst, h.le, h.kept, h.left, h.upd.trans (hu.mono (fun _ _ h => h.elim))⟩

theorem DSt.at_ {w wr : World} {g cap : Nat} {ds : List Dl} {d : Dl} {i j : Nat} {cs : List Dl} {rest : List Value} (h : DSt w wr g cap ds d i j cs rest) {k : Nat} (hk : k < ds.length) : ∃ o, cs[k]? = some o ∧ wr.cell? ⟨g, k * 2, none⟩ = some (.int .i64 o.1) ∧ wr.cell? ⟨g, k * 2 + 1, none⟩ = some (.int .i64 o.2) ∧ wr.frozen? ⟨g, k * 2, none⟩ = false ∧ wr.frozen? ⟨g, k * 2 + 1, none⟩ = false := by
  have hk' : k < cs.length := by rw [h.len]; exact hk
  refine ⟨cs[k], List.getElem?_eq_getElem hk', ?_, ?_, unfrozen_of_heap h.blk _, unfrozen_of_heap h.blk _⟩
  · rw [cell_of_heap h.blk]
    have hg := (dlCells_get cs k cs[k] (List.getElem?_eq_getElem hk')).1
    rw [List.getElem?_toArray, List.getElem?_append_left (by rw [dlCells_len]; omega)]
    exact hg
  · rw [cell_of_heap h.blk]
    have hg := (dlCells_get cs k cs[k] (List.getElem?_eq_getElem hk')).2
    rw [List.getElem?_toArray, List.getElem?_append_left (by rw [dlCells_len]; omega)]
    exact hg

theorem DSt.next {w wr : World} {g cap : Nat} {ds : List Dl} {d : Dl} {i j : Nat} {cs : List Dl} {rest : List Value} (h : DSt w wr g cap ds d i j cs rest) (hj : j < ds.length) : cs[j]? = some ds[j] := by
  have := congrArg (fun l : List Dl => l[0]?) h.left
  simp only [List.getElem?_drop, Nat.add_zero] at this
  rw [this, List.getElem?_eq_getElem hj]

theorem DSt.skip {w wr : World} {g cap : Nat} {ds : List Dl} {d : Dl} {i j : Nat} {cs : List Dl} {rest : List Value} (h : DSt w wr g cap ds d i j cs rest) (hj : j < ds.length) (hd : (ds[j] == d) = true) : DSt w wr g cap ds d i (j + 1) cs rest := by
  refine ⟨h.blk, h.len, h.rst, by have := h.le; omega, ?_, ?_, h.upd⟩
  · rw [List.take_succ_eq_append_getElem hj, List.filter_append, h.kept]
    simp [pNot, hd]
  · have := congrArg (List.drop 1) h.left
    simpa [List.drop_drop] using this

theorem DSt.keep1 {w wr : World} {g cap : Nat} {ds : List Dl} {d : Dl} {i j : Nat} {cs : List Dl} {rest : List Value} (h : DSt w wr g cap ds d i j cs rest) (hj : j < ds.length) (hd : (ds[j] == d) = false) :
    DSt w ((wr.setCell ⟨g, i * 2, none⟩ (.int .i64 ds[j].1)).setCell ⟨g, i * 2 + 1, none⟩ (.int .i64 ds[j].2)) g cap ds d (i + 1) (j + 1) (cs.set i ds[j]) rest := by
  have hle := h.le
  have hi : i < cs.length := by rw [h.len]; omega
  refine ⟨?_, ?_, h.rst, by omega, ?_, ?_, ?_⟩
  · have h1 := heap_setCell h.blk (i * 2) (.int .i64 ds[j].1)
    have h2 := heap_setCell h1 (i * 2 + 1) (.int .i64 ds[j].2)
    rw [h2]
    congr 2
    apply Array.toList_inj.1
    simp only [Array.toList_setIfInBounds]
    rw [List.set_append_left _ _ (by rw [dlCells_len]; omega), List.set_append_left _ _ (by simp [dlCells_len]; omega), dlCells_set]
  · simp [h.len]
  · rw [List.take_succ_eq_append_getElem (by simpa using hi), List.take_succ_eq_append_getElem hj, List.filter_append, ← h.kept]
    simp [pNot, hd, List.take_set_of_le]
  · rw [List.drop_set_of_lt (by omega)]
    have := congrArg (List.drop 1) h.left
    simpa [List.drop_drop] using this
  · exact (h.upd.trans (Upd.one wr g _ _)).trans (Upd.one _ g _ _)

/-- The end: what is left behind is cleared. -/
theorem DSt.cleared {w wr : World} {g cap : Nat} {ds : List Dl} {d : Dl} {i : Nat} {cs : List Dl} {rest : List Value} (h : DSt w wr g cap ds d i ds.length cs rest) (hc : ds.length ≤ cap) (hcm : cap ≤ maxLen) (ty : TypeId) :
    ∃ W, (Builtin.clear_ #[96] ty #[.slice (some ⟨g, i * 2, none⟩) (ds.length - i) (cap - i)]).run Tryz.prog wr = .ok (.tuple #[]) W ∧ DRow W (.slice (some ⟨g, 0, none⟩) i cap) (ds.filter (pNot d)) ∧ Upd (fun k => k = g) w W := by
  have hle := h.le
  have hz1 : (Builtin.zeroCells #[Value.int .i64 0, .int .i64 0] (ds.length - i)).toList.length = (ds.length - i) * 2 := by simp [Builtin.zeroCells]
  have hz2 : ∀ v ∈ (Builtin.zeroCells #[Value.int .i64 0, .int .i64 0] (ds.length - i)).toList, v.oneCell' = true := by
    intro v hv
    simp only [Builtin.zeroCells, Array.toList_map, List.mem_map] at hv
    obtain ⟨k, _, rfl⟩ := hv
    have : k % 2 = 0 ∨ k % 2 = 1 := by omega
    rcases this with e | e <;> simp [e] <;> rfl
  have hsz : ((dlCells cs ++ rest).toArray).size = cap * 2 := by
    simp only [List.size_toArray, List.length_append, dlCells_len, h.len, h.rst]
    omega
  have hst := run_storeCells_at (P := Tryz.prog) g (i * 2) 62 _ 0 (dlCells cs ++ rest).toArray wr h.blk (by rw [hz1, hsz]; omega) hz2
  obtain ⟨m, hm⟩ : ∃ m, ds.length - i = m + 1 := ⟨ds.length - i - 1, by omega⟩
  generalize hN : (Builtin.zeroCells #[Value.int .i64 0, .int .i64 0] (ds.length - i)).toList = news at hst hz1 hz2
  have hfl : ds.filter (pNot d) = cs.take i := by rw [h.kept, List.take_length]
  have hlen : (cs.take i).length = i := by rw [List.length_take, h.len]; omega
  refine ⟨wr.setRow g ((dlCells cs ++ rest).toArray.toList.take (i * 2 + 0) ++ news ++ (dlCells cs ++ rest).toArray.toList.drop (i * 2 + 0 + news.length)).toArray, ?_, ?_, ?_⟩
  · rw [hm] at hN ⊢
    simp [Builtin.clear_, run_underlying undDls, Value.cells, hN, hst, Result.andThen]
  · rw [hfl]
    refine ⟨by rw [dlCells_len], Or.inr ⟨g, cap, ((dlCells cs ++ rest).toArray.toList.take (i * 2 + 0) ++ news ++ (dlCells cs ++ rest).toArray.toList.drop (i * 2 + 0 + news.length)).toArray, by rw [hlen], Nat.zero_le _, ?_, by rw [hlen]; omega, hcm, ?_, ?_⟩⟩
    · simp [World.setRow, Array.getElem?_modify, h.blk]
    · simp only [List.size_toArray, List.length_append, List.length_take, List.length_drop, hz1, dlCells_len, h.len, h.rst, Nat.add_zero]
      omega
    · rw [hlen]
      simp only [Nat.add_zero]
      rw [List.append_assoc, List.take_append_of_le_length (by rw [List.length_take, List.length_append, dlCells_len, h.len]; omega), List.take_take, Nat.min_self, List.take_append_of_le_length (by rw [dlCells_len, h.len]; omega), dlCells_take]
  · refine h.upd.trans ⟨rfl, rfl, rfl, by simp [World.setRow], fun k hk hn => ?_⟩
    simp [World.setRow, Array.getElem?_modify, Ne.symm hn]

end Go.Proofs.YtiiapfkcmdkkoaaGreatDoor
