import Derived.Test.YtkhlhokolfaieaaGreatDoorD2
/-
  Package store: Put, Delete.
-/
namespace Go.Proofs.YtkhlhokolfaieaaGreatDoor
open Go.RowKit Go.MapKept

theorem Upd.setObj {w : World} {m : Nat} (o : Obj) : Upd (fun k => k = m) w { w with heap := w.heap.setIfInBounds m o } :=
  ⟨rfl, rfl, rfl, by simp, fun k hk hn => by simp [Ne.symm hn]⟩

theorem Sto.ne {w : World} {s m : Nat} {L : Texts} {u : Int} (h : Sto w s m L u) : s ≠ m := by
  intro e
  obtain ⟨es, clock, h3, _⟩ := h.map
  rw [← e, h.blk] at h3
  simp at h3

/-- How much would be kept. -/
def usedWith (L : Texts) (u : Int) (t x : List UInt8) : Int := u - takenOf L t + t.length + x.length

theorem Sto.update {w : World} {s m : Nat} {L : Texts} {u : Int} (h : Sto w s m L u) (t x : List UInt8) : ∃ W, (Instr.mapUpdate 78 (.map (some m)) (.string ⟨t.toArray⟩) (.agg #[.string ⟨x.toArray⟩])).run Tryz.prog w = .ok () W ∧ Sto W s m (aput L t x) u ∧ Upd (fun k => k = m) w W := by
  obtain ⟨es, clock, h3, h4⟩ := h.map
  obtain ⟨es', clock', h5, h6⟩ := run_update_ents (P := Tryz.prog) (w := w) Tryz.und78 Tryz.und9 strV_key strV_inj h3 h4 t x
  refine ⟨_, h5, ⟨(Upd.setObj _).keep h.blk h.ne, es', clock', (MapKept.heap_set h3).1, h6⟩, Upd.setObj _⟩

theorem Sto.erase {w : World} {s m : Nat} {L : Texts} {u : Int} (h : Sto w s m L u) (t : List UInt8) (ty : TypeId) : ∃ W, (Builtin.delete_ #[78, 9] ty #[.map (some m), .string ⟨t.toArray⟩]).run Tryz.prog w = .ok (.tuple #[]) W ∧ Sto W s m (adel L t) u ∧ Upd (fun k => k = m) w W := by
  obtain ⟨es, clock, h3, h4⟩ := h.map
  obtain ⟨es', h5, h6⟩ := run_delete_ents (P := Tryz.prog) (w := w) ty Tryz.und78 Tryz.und9 strV_key strV_inj h3 h4 t
  exact ⟨_, h5, ⟨(Upd.setObj _).keep h.blk h.ne, es', clock, (MapKept.heap_set h3).1, h6⟩, Upd.setObj _⟩

theorem Sto.setUsed {w : World} {s m : Nat} {L : Texts} {u : Int} (h : Sto w s m L u) (u' : Int) : Sto (w.setCell ⟨s, 1, none⟩ (.int .i64 u')) s m L u' := by
  obtain ⟨es, clock, h3, h4⟩ := h.map
  refine ⟨?_, es, clock, (Upd.one w s 1 _).keep h3 (Ne.symm h.ne), h4⟩
  have := heap_setCell h.blk 1 (.int .i64 u')
  simpa using this

set_option maxHeartbeats 800000 in
set_option maxRecDepth 100000 in
theorem put_any {w : World} {s m : Nat} {L : Texts} {u : Int} (h : Hid (Sto w s m L u)) (t x : List UInt8) (ht : t.length ≤ 1000) (hx : x.length ≤ 1000) (hL : ∀ p ∈ L, p.2.length ≤ 100) (hu0 : -100000 ≤ u) (hu1 : u ≤ 100000) :
    Calls Tryz.prog 66 #[.pointer (some ⟨s, 0, none⟩), .string ⟨t.toArray⟩, .string ⟨x.toArray⟩] w fun e w' =>
      e = .returned (.bool (decide (usedWith L u t x ≤ 400))) ∧ Upd (fun k => k = s ∨ k = m) w w' ∧ (usedWith L u t x ≤ 400 → Sto w' s m (aput L t x) (usedWith L u t x)) ∧ (¬ usedWith L u t x ≤ 400 → Sto w' s m L u) := by
  have c0 : w.cell? ⟨s, 0, none⟩ = some (.map (some m)) := cell_of_heap h.out.blk 0
  have c1 : w.cell? ⟨s, 1, none⟩ = some (.int .i64 u) := cell_of_heap h.out.blk 1
  have hsl := lt_of_heap h.out.blk
  obtain ⟨b0, b1⟩ := takenOf_bd L t hL ht
  have HK : Hid (∀ W, Upd (fun _ => False) w W → Calls Tryz.prog 69 #[.pointer (some ⟨s, 0, none⟩), .string ⟨t.toArray⟩] W fun e w' => e = .returned (.int .i64 (takenOf L t)) ∧ Upd (fun _ => False) W w') := fun W hW => taken_any (h.out.keep hW (fun h => h) (fun h => h)) t ht hL
  unfold usedWith
  generalize takenOf L t = tk at b0 b1 HK ⊢
  clear hL
  have w1_ : IntKind.i64.wrap (u - tk) = u - tk := by rw [IntKind.wrap_i64]; omega
  have w2_ : IntKind.i64.wrap (u - tk + t.length) = u - tk + t.length := by rw [IntKind.wrap_i64]; omega
  have w3_ : IntKind.i64.wrap (u - tk + t.length + x.length) = u - tk + t.length + x.length := by rw [IntKind.wrap_i64]; omega
  go_enter Tryz.func66, Tryz.ntmps66
  go_upto_region 1 with fail
  go_cut [7] (fun v wx => v = .int .i64 (u - tk + t.length + x.length) ∧ Hid (Upd (fun _ => False) w wx))
  case first =>
    go_region_with (go_at_call 69; refine (HK.out _ (Upd.refl _ w).drew).mono ?_; rintro e w1 ⟨rfl, hu⟩; have hu0' : Upd (fun _ => False) w w1 := (Upd.refl _ w).drew.trans hu; have d1 : w1.cell? ⟨s, 1, none⟩ = some (.int .i64 u) := (hu0'.cell hsl (fun h => h)).trans c1; have HU : Hid (Upd (fun _ => False) w w1) := hu0'; clear hu hu0')
    all_goals
      go_wp2_with fail
      go_meet
      exact ⟨rfl, HU⟩
  case rest =>
    obtain ⟨rfl, hu⟩ := hcut
    have hS := h.out.keep hu.out (fun h => h) (fun h => h)
    by_cases h400 : u - tk + t.length + x.length ≤ 400
    · obtain ⟨W, hW, hSW, hUW⟩ := hS.update t x
      have e0 : wc.cell? ⟨s, 0, none⟩ = some (.map (some m)) := cell_of_heap hS.blk 0
      have e1 : W.cell? ⟨s, 1, none⟩ = some (.int .i64 u) := cell_of_heap hSW.blk 1
      have g1 : W.frozen? ⟨s, 1, none⟩ = false := unfrozen_of_heap hSW.blk 1
      have HF : Hid (Sto (W.setCell ⟨s, 1, none⟩ (.int .i64 (u - tk + t.length + x.length))) s m (aput L t x) (u - tk + t.length + x.length) ∧ Upd (fun k => k = s ∨ k = m) w (W.setCell ⟨s, 1, none⟩ (.int .i64 (u - tk + t.length + x.length)))) :=
        ⟨hSW.setUsed _, ((hu.out.mono (fun _ _ h => h.elim)).trans (hUW.mono (fun _ _ h => Or.inr h))).trans ((Upd.one _ _ _ _).mono (fun _ _ h => Or.inl h))⟩
      clear hS hSW hUW hu
      go_wp2
      go_ret
      refine ⟨by first | rfl | exact ret_bool (decide_eq_true (by omega)).symm | exact ret_bool (decide_eq_false (by omega)).symm, HF.out.2, ?_, ?_⟩
      all_goals first | exact HF.out.1 | exact fun _ => HF.out.1 | exact fun h => absurd h (by omega)
    · have HF : Hid (Sto wc s m L u ∧ Upd (fun k => k = s ∨ k = m) w wc) := ⟨hS, hu.out.mono (fun _ _ h => h.elim)⟩
      clear hS hu
      go_wp2
      go_ret
      refine ⟨by first | rfl | exact ret_bool (decide_eq_true (by omega)).symm | exact ret_bool (decide_eq_false (by omega)).symm, HF.out.2, ?_, ?_⟩
      all_goals first | exact HF.out.1 | exact fun _ => HF.out.1 | exact fun h => absurd h (by omega)

set_option maxHeartbeats 800000 in
set_option maxRecDepth 100000 in
theorem delete_any {w : World} {s m : Nat} {L : Texts} {u : Int} (h : Hid (Sto w s m L u)) (t : List UInt8) (ht : t.length ≤ 1000) (hL : ∀ p ∈ L, p.2.length ≤ 100) (hu0 : -100000 ≤ u) (hu1 : u ≤ 100000) :
    Calls Tryz.prog 67 #[.pointer (some ⟨s, 0, none⟩), .string ⟨t.toArray⟩] w fun e w' =>
      e = .returned (.bool (aget L t).isSome) ∧ Upd (fun k => k = s ∨ k = m) w w' ∧ Sto w' s m (adel L t) (u - takenOf L t) := by
  have c0 : w.cell? ⟨s, 0, none⟩ = some (.map (some m)) := cell_of_heap h.out.blk 0
  have hsl := lt_of_heap h.out.blk
  have hl := h.out.look t
  obtain ⟨b0, b1⟩ := takenOf_bd L t hL ht
  have HK : Hid (∀ W, Upd (fun _ => False) w W → Calls Tryz.prog 69 #[.pointer (some ⟨s, 0, none⟩), .string ⟨t.toArray⟩] W fun e w' => e = .returned (.int .i64 (takenOf L t)) ∧ Upd (fun _ => False) W w') := fun W hW => taken_any (h.out.keep hW (fun h => h) (fun h => h)) t ht hL
  generalize takenOf L t = tk at b0 b1 HK ⊢
  generalize (aget L t).isSome = b at hl ⊢
  generalize (aget L t).getD [] = x at hl
  clear hL
  have w1_ : IntKind.i64.wrap (u - tk) = u - tk := by rw [IntKind.wrap_i64]; omega
  have hU1 := (Upd.refl (fun _ => False) w).alloc (.cells #[.string ⟨x.toArray⟩] 107)
  have hS1 := h.out.keep hU1 (fun h => h) (fun h => h)
  have k1 : (w.alloc (.cells #[.string ⟨x.toArray⟩] 107)).cell? ⟨s, 1, none⟩ = some (.int .i64 u) := cell_of_heap hS1.blk 1
  have q1 : (w.alloc (.cells #[.string ⟨x.toArray⟩] 107)).frozen? ⟨s, 1, none⟩ = false := unfrozen_of_heap hS1.blk 1
  have HU1 : Hid (Upd (fun _ => False) w (w.alloc (.cells #[.string ⟨x.toArray⟩] 107))) := hU1
  have hsl1 := lt_of_heap hS1.blk
  clear hS1 hU1
  go_enter Tryz.func67, Tryz.ntmps67
  go_upto_region 2 with fail
  go_cut [6] (fun v wx => v = .bool b ∧ Hid (Sto wx s m L (u - tk) ∧ Upd (fun k => k = s ∨ k = m) w wx))
  case first =>
    go_region_with (go_at_call 69; refine (HK.out _ HU1.out.drew).mono ?_; rintro e w1 ⟨rfl, hu⟩; have hu0' : Upd (fun _ => False) w w1 := HU1.out.drew.trans hu; have hS := h.out.keep hu0' (fun h => h) (fun h => h); have d1 : w1.cell? ⟨s, 1, none⟩ = some (.int .i64 u) := cell_of_heap hS.blk 1; have g1 : w1.frozen? ⟨s, 1, none⟩ = false := unfrozen_of_heap hS.blk 1; have HU : Hid (Sto (w1.setCell ⟨s, 1, none⟩ (.int .i64 (u - tk))) s m L (u - tk) ∧ Upd (fun k => k = s ∨ k = m) w (w1.setCell ⟨s, 1, none⟩ (.int .i64 (u - tk)))) := ⟨hS.setUsed _, (hu0'.mono (fun _ _ h => h.elim)).trans ((Upd.one _ _ _ _).mono (fun _ _ h => Or.inl h))⟩; clear hu hu0' hS)
    all_goals
      go_wp2_with fail
      go_meet
      exact ⟨rfl, HU⟩
  case rest =>
    obtain ⟨rfl, hu⟩ := hcut
    have hS := hu.out.1
    have e0 : wc.cell? ⟨s, 0, none⟩ = some (.map (some m)) := cell_of_heap hS.blk 0
    obtain ⟨W, hW, hSW, hUW⟩ := hS.erase t 0
    have HF : Hid (Sto W s m (adel L t) (u - tk) ∧ Upd (fun k => k = s ∨ k = m) w W) := ⟨hSW, hu.out.2.trans (hUW.mono (fun _ _ h => Or.inr h))⟩
    clear hS hSW hUW hu
    go_wp2
    go_ret
    exact ⟨rfl, HF.out.2, HF.out.1⟩

end Go.Proofs.YtkhlhokolfaieaaGreatDoor
