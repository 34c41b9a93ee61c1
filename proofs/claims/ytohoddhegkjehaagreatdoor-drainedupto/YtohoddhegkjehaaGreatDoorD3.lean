import Derived.Test.YtohoddhegkjehaaGreatDoorD1
import Derived.Test.YtohoddhegkjehaaGreatDoorC1
/-
  Package store.
-/
namespace Go.Proofs.YtohoddhegkjehaaGreatDoor
open Go.RowKit Go.MapKept

/-- Texts by their targets. -/
abbrev Texts := List (List UInt8 × List UInt8)
def strV (l : List UInt8) : Value := .string ⟨l.toArray⟩
def entV (l : List UInt8) : Value := .agg #[.string ⟨l.toArray⟩]

theorem strV_key (a : List UInt8) : IsKey .string (strV a) := trivial
theorem strV_inj (a b : List UInt8) (h : strV a = strV b) : a = b := by
  unfold strV at h
  injection h with h
  injection h with h
  exact List.toArray_inj h

theorem Tryz.und81 : Tryz.prog.underlying 81 = some (.map 9 116) := by kernel_rfl
theorem zero_entry (w : World) : (zeroValue 116).run Tryz.prog w = .ok (.agg #[.string ⟨#[]⟩]) w := by kernel_rfl

/-- The store in memory: its block s, its map's block m; u bytes are kept. -/
structure Sto (w : World) (s m : Nat) (L : Texts) (u : Int) : Prop where
  blk : w.heap[s]? = some (.cells #[.map (some m), .int .i64 u] 83 (0, 0))
  map : ∃ es clock, w.heap[m]? = some (.map es clock) ∧ Ents strV entV es L

theorem Sto.keep {M : Nat → Prop} {w w' : World} {s m : Nat} {L : Texts} {u : Int} (h : Sto w s m L u) (hu : Upd M w w') (h1 : ¬ M s) (h2 : ¬ M m) : Sto w' s m L u := by
  obtain ⟨es, clock, h3, h4⟩ := h.map
  exact ⟨hu.keep h.blk h1, es, clock, hu.keep h3 h2, h4⟩

theorem Sto.look {w : World} {s m : Nat} {L : Texts} {u : Int} (h : Sto w s m L u) (t : List UInt8) : (Instr.lookup 81 (.map (some m)) (.string ⟨t.toArray⟩) true).run Tryz.prog w = .ok (.tuple #[.agg #[.string ⟨((aget L t).getD []).toArray⟩], .bool (aget L t).isSome]) w := by
  obtain ⟨es, clock, h3, h4⟩ := h.map
  have := run_lookup_ents (P := Tryz.prog) (w := w) Tryz.und81 Tryz.und9 strV_key strV_inj (zero_entry w) h3 h4 t
  rw [show strV t = .string ⟨t.toArray⟩ from rfl] at this
  rw [this]
  cases aget L t <;> rfl

set_option maxHeartbeats 400000 in
theorem get_any {w : World} {s m : Nat} {L : Texts} {u : Int} (h : Hid (Sto w s m L u)) (t : List UInt8) :
    Calls Tryz.prog 68 #[.pointer (some ⟨s, 0, none⟩), .string ⟨t.toArray⟩] w fun e w' => e = .returned (.tuple #[.string ⟨((aget L t).getD []).toArray⟩, .bool (aget L t).isSome]) ∧ Upd (fun _ => False) w w' := by
  have c0 : w.cell? ⟨s, 0, none⟩ = some (.map (some m)) := cell_of_heap h.out.blk 0
  have hl := h.out.look t
  generalize (aget L t).isSome = b at hl ⊢
  generalize (aget L t).getD [] = x at hl ⊢
  go_enter Tryz.func68, Tryz.ntmps68
  go_wp2
  go_ret2
  exact ⟨rfl, (Upd.refl _ _).alloc _⟩

/-- How many bytes a target and its text take. -/
def takenOf (L : Texts) (t : List UInt8) : Int := match aget L t with | some x => (t.length : Int) + x.length | none => 0

theorem takenOf_bd (L : Texts) (t : List UInt8) (h : ∀ p ∈ L, p.2.length ≤ 100) (ht : t.length ≤ 1000) : 0 ≤ takenOf L t ∧ takenOf L t ≤ 1100 := by
  unfold takenOf
  split
  · rename_i x e
    unfold aget at e
    obtain ⟨p, hp, rfl⟩ := Option.map_eq_some_iff.1 e
    have := h p (List.mem_of_getElem? hp)
    omega
  · omega

set_option maxHeartbeats 400000 in
theorem taken_any {w : World} {s m : Nat} {L : Texts} {u : Int} (h : Hid (Sto w s m L u)) (t : List UInt8) (ht : t.length ≤ 1000) (hL : ∀ p ∈ L, p.2.length ≤ 100) :
    Calls Tryz.prog 72 #[.pointer (some ⟨s, 0, none⟩), .string ⟨t.toArray⟩] w fun e w' => e = .returned (.int .i64 (takenOf L t)) ∧ Upd (fun _ => False) w w' := by
  have c0 : w.cell? ⟨s, 0, none⟩ = some (.map (some m)) := cell_of_heap h.out.blk 0
  have hl := h.out.look t
  cases hg : aget L t with
  | none =>
    have HT : Hid (takenOf L t = 0) := by show _ = _; unfold takenOf; rw [hg]
    rw [hg] at hl
    simp only [Option.isSome_none, Option.getD_none] at hl
    clear hg hL
    go_enter Tryz.func72, Tryz.ntmps72
    go_wp2
    go_ret
    exact ⟨ret_int HT.out.symm, (Upd.refl _ _).alloc _⟩
  | some x =>
    have hx : x.length ≤ 100 := by
      unfold aget at hg
      obtain ⟨p, hp, rfl⟩ := Option.map_eq_some_iff.1 hg
      exact hL p (List.mem_of_getElem? hp)
    have HT : Hid (takenOf L t = (t.length : Int) + x.length) := by show _ = _; unfold takenOf; rw [hg]
    rw [hg] at hl
    simp only [Option.isSome_some, Option.getD_some] at hl
    clear hg hL
    go_enter Tryz.func72, Tryz.ntmps72
    go_wp2
    go_ret
    exact ⟨ret_int (by rw [HT.out]), (Upd.refl _ _).alloc _⟩

set_option maxHeartbeats 400000 in
theorem storeNew_any (w : World) :
    Calls Tryz.prog 20 #[] w fun e w' => e = .returned (.pointer (some ⟨w.heap.size + 1, 0, none⟩)) ∧ Sto w' (w.heap.size + 1) w.heap.size [] 0 ∧ Upd (fun _ => False) w w' ∧ w'.heap.size = w.heap.size + 2 := by
  have hmk : ∀ W : World, (Instr.makeMap 81 none).run Tryz.prog W = .ok (.map (some W.heap.size)) (W.alloc (.map #[] 0)) := fun W => by simp [Instr.makeMap, Result.andThen]
  go_enter Tryz.func20, Tryz.ntmps20
  go_wp2
  go_ret
  refine ⟨rfl, ⟨?_, #[], 0, ?_, rfl⟩, ((Upd.refl _ _).alloc _).alloc _, by simp⟩
  · simp only [hpush, Array.getElem?_push, Array.size_push]; repeat (first | rw [if_pos trivial] | rw [if_pos (by omega)] | rw [if_neg (by omega)])
  · simp only [hpush, Array.getElem?_push, Array.size_push]; repeat (first | rw [if_pos trivial] | rw [if_pos (by omega)] | rw [if_neg (by omega)])

end Go.Proofs.YtohoddhegkjehaaGreatDoor

/-
  Package store: Put, Delete.
-/
namespace Go.Proofs.YtohoddhegkjehaaGreatDoor
open Go.RowKit Go.MapKept

theorem Upd.setObj {w : World} {m : Nat} (o : Obj) : Upd (fun k => k = m) w { w with heap := w.heap.setIfInBounds m o } :=
  ⟨rfl, rfl, rfl, by simp, fun k hk hn => by simp [Ne.symm hn]⟩

theorem Sto.ne {w : World} {s m : Nat} {L : Texts} {u : Int} (h : Sto w s m L u) : s ≠ m := by
  intro e
  obtain ⟨es, clock, h3, _⟩ := h.map
  rw [← e, h.blk] at h3
  simp at h3

/-- How much would be kept. -/
def usedWith (L : Texts) (u : Int) (t x : List UInt8) : Int := u - takenOf L t + t.length + x.length

theorem Sto.update {w : World} {s m : Nat} {L : Texts} {u : Int} (h : Sto w s m L u) (t x : List UInt8) : ∃ W, (Instr.mapUpdate 81 (.map (some m)) (.string ⟨t.toArray⟩) (.agg #[.string ⟨x.toArray⟩])).run Tryz.prog w = .ok () W ∧ Sto W s m (aput L t x) u ∧ Upd (fun k => k = m) w W := by
  obtain ⟨es, clock, h3, h4⟩ := h.map
  obtain ⟨es', clock', h5, h6⟩ := run_update_ents (P := Tryz.prog) (w := w) Tryz.und81 Tryz.und9 strV_key strV_inj h3 h4 t x
  refine ⟨_, h5, ⟨(Upd.setObj _).keep h.blk h.ne, es', clock', (MapKept.heap_set h3).1, h6⟩, Upd.setObj _⟩

theorem Sto.erase {w : World} {s m : Nat} {L : Texts} {u : Int} (h : Sto w s m L u) (t : List UInt8) (ty : TypeId) : ∃ W, (Builtin.delete_ #[81, 9] ty #[.map (some m), .string ⟨t.toArray⟩]).run Tryz.prog w = .ok (.tuple #[]) W ∧ Sto W s m (adel L t) u ∧ Upd (fun k => k = m) w W := by
  obtain ⟨es, clock, h3, h4⟩ := h.map
  obtain ⟨es', h5, h6⟩ := run_delete_ents (P := Tryz.prog) (w := w) ty Tryz.und81 Tryz.und9 strV_key strV_inj h3 h4 t
  exact ⟨_, h5, ⟨(Upd.setObj _).keep h.blk h.ne, es', clock, (MapKept.heap_set h3).1, h6⟩, Upd.setObj _⟩

theorem Sto.setUsed {w : World} {s m : Nat} {L : Texts} {u : Int} (h : Sto w s m L u) (u' : Int) : Sto (w.setCell ⟨s, 1, none⟩ (.int .i64 u')) s m L u' := by
  obtain ⟨es, clock, h3, h4⟩ := h.map
  refine ⟨?_, es, clock, (Upd.one w s 1 _).keep h3 (Ne.symm h.ne), h4⟩
  have := heap_setCell h.blk 1 (.int .i64 u')
  simpa using this

set_option maxHeartbeats 800000 in
set_option maxRecDepth 100000 in
theorem put_any {w : World} {s m : Nat} {L : Texts} {u : Int} (h : Hid (Sto w s m L u)) (t x : List UInt8) (ht : t.length ≤ 1000) (hx : x.length ≤ 1000) (hL : ∀ p ∈ L, p.2.length ≤ 100) (hu0 : -100000 ≤ u) (hu1 : u ≤ 100000) :
    Calls Tryz.prog 69 #[.pointer (some ⟨s, 0, none⟩), .string ⟨t.toArray⟩, .string ⟨x.toArray⟩] w fun e w' =>
      e = .returned (.bool (decide (usedWith L u t x ≤ 400))) ∧ Upd (fun k => k = s ∨ k = m) w w' ∧ (usedWith L u t x ≤ 400 → Sto w' s m (aput L t x) (usedWith L u t x)) ∧ (¬ usedWith L u t x ≤ 400 → Sto w' s m L u) := by
  have c0 : w.cell? ⟨s, 0, none⟩ = some (.map (some m)) := cell_of_heap h.out.blk 0
  have c1 : w.cell? ⟨s, 1, none⟩ = some (.int .i64 u) := cell_of_heap h.out.blk 1
  have hsl := lt_of_heap h.out.blk
  obtain ⟨b0, b1⟩ := takenOf_bd L t hL ht
  have HK : Hid (∀ W, Upd (fun _ => False) w W → Calls Tryz.prog 72 #[.pointer (some ⟨s, 0, none⟩), .string ⟨t.toArray⟩] W fun e w' => e = .returned (.int .i64 (takenOf L t)) ∧ Upd (fun _ => False) W w') := fun W hW => taken_any (h.out.keep hW (fun h => h) (fun h => h)) t ht hL
  unfold usedWith
  generalize takenOf L t = tk at b0 b1 HK ⊢
  clear hL
  have w1_ : IntKind.i64.wrap (u - tk) = u - tk := by rw [IntKind.wrap_i64]; omega
  have w2_ : IntKind.i64.wrap (u - tk + t.length) = u - tk + t.length := by rw [IntKind.wrap_i64]; omega
  have w3_ : IntKind.i64.wrap (u - tk + t.length + x.length) = u - tk + t.length + x.length := by rw [IntKind.wrap_i64]; omega
  go_enter Tryz.func69, Tryz.ntmps69
  go_upto_region 1 with fail
  go_cut [7] (fun v wx => v = .int .i64 (u - tk + t.length + x.length) ∧ Hid (Upd (fun _ => False) w wx))
  case first =>
    go_region_with (go_at_call 72; refine (HK.out _ (Upd.refl _ w).drew).mono ?_; rintro e w1 ⟨rfl, hu⟩; have hu0' : Upd (fun _ => False) w w1 := (Upd.refl _ w).drew.trans hu; have d1 : w1.cell? ⟨s, 1, none⟩ = some (.int .i64 u) := (hu0'.cell hsl (fun h => h)).trans c1; have HU : Hid (Upd (fun _ => False) w w1) := hu0'; clear hu hu0')
    all_goals
      go_wp2_with fail
      go_meet
      exact ⟨rfl, HU⟩
  case rest =>
    obtain ⟨rfl, hu⟩ := hcut
    have hS := h.out.keep hu.out (fun h => h) (fun h => h)
    by_cases h400 : u - tk + t.length + x.length ≤ 400
    · obtain ⟨W, hW, hSW, hUW⟩ := hS.update t x
      have e0 : wc.cell? ⟨s, 0, none⟩ = some (.map (some m)) := cell_of_heap hS.blk 0
      have e1 : W.cell? ⟨s, 1, none⟩ = some (.int .i64 u) := cell_of_heap hSW.blk 1
      have g1 : W.frozen? ⟨s, 1, none⟩ = false := unfrozen_of_heap hSW.blk 1
      have HF : Hid (Sto (W.setCell ⟨s, 1, none⟩ (.int .i64 (u - tk + t.length + x.length))) s m (aput L t x) (u - tk + t.length + x.length) ∧ Upd (fun k => k = s ∨ k = m) w (W.setCell ⟨s, 1, none⟩ (.int .i64 (u - tk + t.length + x.length)))) :=
        ⟨hSW.setUsed _, ((hu.out.mono (fun _ _ h => h.elim)).trans (hUW.mono (fun _ _ h => Or.inr h))).trans ((Upd.one _ _ _ _).mono (fun _ _ h => Or.inl h))⟩
      clear hS hSW hUW hu
      go_wp2
      go_ret
      refine ⟨by first | rfl | exact ret_bool (decide_eq_true (by omega)).symm | exact ret_bool (decide_eq_false (by omega)).symm, HF.out.2, ?_, ?_⟩
      all_goals first | exact HF.out.1 | exact fun _ => HF.out.1 | exact fun h => absurd h (by omega)
    · have HF : Hid (Sto wc s m L u ∧ Upd (fun k => k = s ∨ k = m) w wc) := ⟨hS, hu.out.mono (fun _ _ h => h.elim)⟩
      clear hS hu
      go_wp2
      go_ret
      refine ⟨by first | rfl | exact ret_bool (decide_eq_true (by omega)).symm | exact ret_bool (decide_eq_false (by omega)).symm, HF.out.2, ?_, ?_⟩
      all_goals first | exact HF.out.1 | exact fun _ => HF.out.1 | exact fun h => absurd h (by omega)

set_option maxHeartbeats 800000 in
set_option maxRecDepth 100000 in
theorem delete_any {w : World} {s m : Nat} {L : Texts} {u : Int} (h : Hid (Sto w s m L u)) (t : List UInt8) (ht : t.length ≤ 1000) (hL : ∀ p ∈ L, p.2.length ≤ 100) (hu0 : -100000 ≤ u) (hu1 : u ≤ 100000) :
    Calls Tryz.prog 70 #[.pointer (some ⟨s, 0, none⟩), .string ⟨t.toArray⟩] w fun e w' =>
      e = .returned (.bool (aget L t).isSome) ∧ Upd (fun k => k = s ∨ k = m) w w' ∧ Sto w' s m (adel L t) (u - takenOf L t) := by
  have c0 : w.cell? ⟨s, 0, none⟩ = some (.map (some m)) := cell_of_heap h.out.blk 0
  have hsl := lt_of_heap h.out.blk
  have hl := h.out.look t
  obtain ⟨b0, b1⟩ := takenOf_bd L t hL ht
  have HK : Hid (∀ W, Upd (fun _ => False) w W → Calls Tryz.prog 72 #[.pointer (some ⟨s, 0, none⟩), .string ⟨t.toArray⟩] W fun e w' => e = .returned (.int .i64 (takenOf L t)) ∧ Upd (fun _ => False) W w') := fun W hW => taken_any (h.out.keep hW (fun h => h) (fun h => h)) t ht hL
  generalize takenOf L t = tk at b0 b1 HK ⊢
  generalize (aget L t).isSome = b at hl ⊢
  generalize (aget L t).getD [] = x at hl
  clear hL
  have w1_ : IntKind.i64.wrap (u - tk) = u - tk := by rw [IntKind.wrap_i64]; omega
  have hU1 := (Upd.refl (fun _ => False) w).alloc (.cells #[.string ⟨x.toArray⟩] 116)
  have hS1 := h.out.keep hU1 (fun h => h) (fun h => h)
  have k1 : (w.alloc (.cells #[.string ⟨x.toArray⟩] 116)).cell? ⟨s, 1, none⟩ = some (.int .i64 u) := cell_of_heap hS1.blk 1
  have q1 : (w.alloc (.cells #[.string ⟨x.toArray⟩] 116)).frozen? ⟨s, 1, none⟩ = false := unfrozen_of_heap hS1.blk 1
  have HU1 : Hid (Upd (fun _ => False) w (w.alloc (.cells #[.string ⟨x.toArray⟩] 116))) := hU1
  have hsl1 := lt_of_heap hS1.blk
  clear hS1 hU1
  go_enter Tryz.func70, Tryz.ntmps70
  go_upto_region 2 with fail
  go_cut [6] (fun v wx => v = .bool b ∧ Hid (Sto wx s m L (u - tk) ∧ Upd (fun k => k = s ∨ k = m) w wx))
  case first =>
    go_region_with (go_at_call 72; refine (HK.out _ HU1.out.drew).mono ?_; rintro e w1 ⟨rfl, hu⟩; have hu0' : Upd (fun _ => False) w w1 := HU1.out.drew.trans hu; have hS := h.out.keep hu0' (fun h => h) (fun h => h); have d1 : w1.cell? ⟨s, 1, none⟩ = some (.int .i64 u) := cell_of_heap hS.blk 1; have g1 : w1.frozen? ⟨s, 1, none⟩ = false := unfrozen_of_heap hS.blk 1; have HU : Hid (Sto (w1.setCell ⟨s, 1, none⟩ (.int .i64 (u - tk))) s m L (u - tk) ∧ Upd (fun k => k = s ∨ k = m) w (w1.setCell ⟨s, 1, none⟩ (.int .i64 (u - tk)))) := ⟨hS.setUsed _, (hu0'.mono (fun _ _ h => h.elim)).trans ((Upd.one _ _ _ _).mono (fun _ _ h => Or.inl h))⟩; clear hu hu0' hS)
    all_goals
      go_wp2_with fail
      go_meet
      exact ⟨rfl, HU⟩
  case rest =>
    obtain ⟨rfl, hu⟩ := hcut
    have hS := hu.out.1
    have e0 : wc.cell? ⟨s, 0, none⟩ = some (.map (some m)) := cell_of_heap hS.blk 0
    obtain ⟨W, hW, hSW, hUW⟩ := hS.erase t 0
    have HF : Hid (Sto W s m (adel L t) (u - tk) ∧ Upd (fun k => k = s ∨ k = m) w W) := ⟨hSW, hu.out.2.trans (hUW.mono (fun _ _ h => Or.inr h))⟩
    clear hS hSW hUW hu
    go_wp2
    go_ret
    exact ⟨rfl, HF.out.2, HF.out.1⟩

end Go.Proofs.YtohoddhegkjehaaGreatDoor
