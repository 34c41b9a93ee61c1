import Derived.Test.YtiiapfkcmdkkoaaGreatDoorQ01
import Derived.Test.YtiiapfkcmdkkoaaGreatDoorQ08
/-
  Package store.
-/
namespace Go.Proofs.YtiiapfkcmdkkoaaGreatDoor
open Go.RowKit Go.MapKept

/-- Texts by their targets. -/
abbrev Texts := List (List UInt8 × List UInt8)
def strV (l : List UInt8) : Value := .string ⟨l.toArray⟩
def entV (l : List UInt8) : Value := .agg #[.string ⟨l.toArray⟩]

theorem strV_key (a : List UInt8) : IsKey .string (strV a) := trivial
theorem strV_inj (a b : List UInt8) (h : strV a = strV b) : a = b := by
  unfold strV at h
  injection h with h
  injection h with h
  exact List.toArray_inj h

theorem Tryz.und101 : Tryz.prog.underlying 101 = some (.map 9 197) := by kernel_rfl
theorem zero_entry (w : World) : (zeroValue 197).run Tryz.prog w = .ok (.agg #[.string ⟨#[]⟩]) w := by kernel_rfl

/-- The store in memory: its block s, its map's block m; u bytes are kept. -/
structure Sto (w : World) (s m : Nat) (L : Texts) (u : Int) : Prop where
  blk : w.heap[s]? = some (.cells #[.map (some m), .int .i64 u] 103 (0, 0))
  map : ∃ es clock, w.heap[m]? = some (.map es clock) ∧ Ents strV entV es L

theorem Sto.keep {M : Nat → Prop} {w w' : World} {s m : Nat} {L : Texts} {u : Int} (h : Sto w s m L u) (hu : Upd M w w') (h1 : ¬ M s) (h2 : ¬ M m) : Sto w' s m L u := by
  obtain ⟨es, clock, h3, h4⟩ := h.map
  exact ⟨hu.keep h.blk h1, es, clock, hu.keep h3 h2, h4⟩

theorem Sto.look {w : World} {s m : Nat} {L : Texts} {u : Int} (h : Sto w s m L u) (t : List UInt8) : (Instr.lookup 101 (.map (some m)) (.string ⟨t.toArray⟩) true).run Tryz.prog w = .ok (.tuple #[.agg #[.string ⟨((aget L t).getD []).toArray⟩], .bool (aget L t).isSome]) w := by
  obtain ⟨es, clock, h3, h4⟩ := h.map
  have := run_lookup_ents (P := Tryz.prog) (w := w) Tryz.und101 Tryz.und9 strV_key strV_inj (zero_entry w) h3 h4 t
  rw [show strV t = .string ⟨t.toArray⟩ from rfl] at this
  rw [this]
  cases aget L t <;> rfl

set_option maxHeartbeats 400000 in
theorem get_any {w : World} {s m : Nat} {L : Texts} {u : Int} (h : Hid (Sto w s m L u)) (t : List UInt8) :
    Calls Tryz.prog 133 #[.pointer (some ⟨s, 0, none⟩), .string ⟨t.toArray⟩] w fun e w' => e = .returned (.tuple #[.string ⟨((aget L t).getD []).toArray⟩, .bool (aget L t).isSome]) ∧ Upd (fun _ => False) w w' := by
  have c0 : w.cell? ⟨s, 0, none⟩ = some (.map (some m)) := cell_of_heap h.out.blk 0
  have hl := h.out.look t
  generalize (aget L t).isSome = b at hl ⊢
  generalize (aget L t).getD [] = x at hl ⊢
  go_enter Tryz.func133, Tryz.ntmps133
  go_wp2
  go_ret2
  exact ⟨rfl, (Upd.refl _ _).alloc _⟩

/-- How many bytes a target and its text take. -/
def takenOf (L : Texts) (t : List UInt8) : Int := match aget L t with | some x => (t.length : Int) + x.length | none => 0

theorem takenOf_bd (L : Texts) (t : List UInt8) (h : ∀ p ∈ L, p.2.length ≤ 100) (ht : t.length ≤ 1000) : 0 ≤ takenOf L t ∧ takenOf L t ≤ 1100 := by
  unfold takenOf
  split
  · rename_i x e
    unfold aget at e
    obtain ⟨p, hp, rfl⟩ := Option.map_eq_some_iff.1 e
    have := h p (List.mem_of_getElem? hp)
    omega
  · omega

set_option maxHeartbeats 400000 in
theorem taken_any {w : World} {s m : Nat} {L : Texts} {u : Int} (h : Hid (Sto w s m L u)) (t : List UInt8) (ht : t.length ≤ 1000) (hL : ∀ p ∈ L, p.2.length ≤ 100) :
    Calls Tryz.prog 137 #[.pointer (some ⟨s, 0, none⟩), .string ⟨t.toArray⟩] w fun e w' => e = .returned (.int .i64 (takenOf L t)) ∧ Upd (fun _ => False) w w' := by
  have c0 : w.cell? ⟨s, 0, none⟩ = some (.map (some m)) := cell_of_heap h.out.blk 0
  have hl := h.out.look t
  cases hg : aget L t with
  | none =>
    have HT : Hid (takenOf L t = 0) := by show _ = _; unfold takenOf; rw [hg]
    rw [hg] at hl
    simp only [Option.isSome_none, Option.getD_none] at hl
    clear hg hL
    go_enter Tryz.func137, Tryz.ntmps137
    go_wp2
    go_ret
    exact ⟨ret_int HT.out.symm, (Upd.refl _ _).alloc _⟩
  | some x =>
    have hx : x.length ≤ 100 := by
      unfold aget at hg
      obtain ⟨p, hp, rfl⟩ := Option.map_eq_some_iff.1 hg
      exact hL p (List.mem_of_getElem? hp)
    have HT : Hid (takenOf L t = (t.length : Int) + x.length) := by show _ = _; unfold takenOf; rw [hg]
    rw [hg] at hl
    simp only [Option.isSome_some, Option.getD_some] at hl
    clear hg hL
    go_enter Tryz.func137, Tryz.ntmps137
    go_wp2
    go_ret
    exact ⟨ret_int (by rw [HT.out]), (Upd.refl _ _).alloc _⟩

set_option maxHeartbeats 400000 in
theorem storeNew_any (w : World) :
    Calls Tryz.prog 25 #[] w fun e w' => e = .returned (.pointer (some ⟨w.heap.size + 1, 0, none⟩)) ∧ Sto w' (w.heap.size + 1) w.heap.size [] 0 ∧ Upd (fun _ => False) w w' ∧ w'.heap.size = w.heap.size + 2 := by
  have hmk : ∀ W : World, (Instr.makeMap 101 none).run Tryz.prog W = .ok (.map (some W.heap.size)) (W.alloc (.map #[] 0)) := fun W => by simp [Instr.makeMap, Result.andThen]
  go_enter Tryz.func25, Tryz.ntmps25
  go_wp2
  go_ret
  refine ⟨rfl, ⟨?_, #[], 0, ?_, rfl⟩, ((Upd.refl _ _).alloc _).alloc _, by simp⟩
  · simp only [hpush, Array.getElem?_push, Array.size_push]; repeat (first | rw [if_pos trivial] | rw [if_pos (by omega)] | rw [if_neg (by omega)])
  · simp only [hpush, Array.getElem?_push, Array.size_push]; repeat (first | rw [if_pos trivial] | rw [if_pos (by omega)] | rw [if_neg (by omega)])

end Go.Proofs.YtiiapfkcmdkkoaaGreatDoor

/-
  Package store: Put, Delete.
-/
namespace Go.Proofs.YtiiapfkcmdkkoaaGreatDoor
open Go.RowKit Go.MapKept

theorem Upd.setObj {w : World} {m : Nat} (o : Obj) : Upd (fun k => k = m) w { w with heap := w.heap.setIfInBounds m o } :=
  ⟨rfl, rfl, rfl, by simp, fun k hk hn => by simp [Ne.symm hn]⟩

theorem Sto.ne {w : World} {s m : Nat} {L : Texts} {u : Int} (h : Sto w s m L u) : s ≠ m := by
  intro e
  obtain ⟨es, clock, h3, _⟩ := h.map
  rw [← e, h.blk] at h3
  simp at h3

/-- How much would be kept. -/
def usedWith (L : Texts) (u : Int) (t x : List UInt8) : Int := u - takenOf L t + t.length + x.length

theorem Sto.update {w : World} {s m : Nat} {L : Texts} {u : Int} (h : Sto w s m L u) (t x : List UInt8) : ∃ W, (Instr.mapUpdate 101 (.map (some m)) (.string ⟨t.toArray⟩) (.agg #[.string ⟨x.toArray⟩])).run Tryz.prog w = .ok () W ∧ Sto W s m (aput L t x) u ∧ Upd (fun k => k = m) w W := by
  obtain ⟨es, clock, h3, h4⟩ := h.map
  obtain ⟨es', clock', h5, h6⟩ := run_update_ents (P := Tryz.prog) (w := w) Tryz.und101 Tryz.und9 strV_key strV_inj h3 h4 t x
  refine ⟨_, h5, ⟨(Upd.setObj _).keep h.blk h.ne, es', clock', (MapKept.heap_set h3).1, h6⟩, Upd.setObj _⟩

theorem Sto.erase {w : World} {s m : Nat} {L : Texts} {u : Int} (h : Sto w s m L u) (t : List UInt8) (ty : TypeId) : ∃ W, (Builtin.delete_ #[101, 9] ty #[.map (some m), .string ⟨t.toArray⟩]).run Tryz.prog w = .ok (.tuple #[]) W ∧ Sto W s m (adel L t) u ∧ Upd (fun k => k = m) w W := by
  obtain ⟨es, clock, h3, h4⟩ := h.map
  obtain ⟨es', h5, h6⟩ := run_delete_ents (P := Tryz.prog) (w := w) ty Tryz.und101 Tryz.und9 strV_key strV_inj h3 h4 t
  exact ⟨_, h5, ⟨(Upd.setObj _).keep h.blk h.ne, es', clock, (MapKept.heap_set h3).1, h6⟩, Upd.setObj _⟩

theorem Sto.setUsed {w : World} {s m : Nat} {L : Texts} {u : Int} (h : Sto w s m L u) (u' : Int) : Sto (w.setCell ⟨s, 1, none⟩ (.int .i64 u')) s m L u' := by
  obtain ⟨es, clock, h3, h4⟩ := h.map
  refine ⟨?_, es, clock, (Upd.one w s 1 _).keep h3 (Ne.symm h.ne), h4⟩
  have := heap_setCell h.blk 1 (.int .i64 u')
  simpa using this

set_option maxHeartbeats 800000 in
set_option maxRecDepth 100000 in
theorem put_any {w : World} {s m : Nat} {L : Texts} {u : Int} (h : Hid (Sto w s m L u)) (t x : List UInt8) (ht : t.length ≤ 1000) (hx : x.length ≤ 1000) (hL : ∀ p ∈ L, p.2.length ≤ 100) (hu0 : -100000 ≤ u) (hu1 : u ≤ 100000) :
    Calls Tryz.prog 134 #[.pointer (some ⟨s, 0, none⟩), .string ⟨t.toArray⟩, .string ⟨x.toArray⟩] w fun e w' =>
      e = .returned (.bool (decide (usedWith L u t x ≤ 400))) ∧ Upd (fun k => k = s ∨ k = m) w w' ∧ (usedWith L u t x ≤ 400 → Sto w' s m (aput L t x) (usedWith L u t x)) ∧ (¬ usedWith L u t x ≤ 400 → Sto w' s m L u) := by
  have c0 : w.cell? ⟨s, 0, none⟩ = some (.map (some m)) := cell_of_heap h.out.blk 0
  have c1 : w.cell? ⟨s, 1, none⟩ = some (.int .i64 u) := cell_of_heap h.out.blk 1
  have hsl := lt_of_heap h.out.blk
  obtain ⟨b0, b1⟩ := takenOf_bd L t hL ht
  have HK : Hid (∀ W, Upd (fun _ => False) w W → Calls Tryz.prog 137 #[.pointer (some ⟨s, 0, none⟩), .string ⟨t.toArray⟩] W fun e w' => e = .returned (.int .i64 (takenOf L t)) ∧ Upd (fun _ => False) W w') := fun W hW => taken_any (h.out.keep hW (fun h => h) (fun h => h)) t ht hL
  unfold usedWith
  generalize takenOf L t = tk at b0 b1 HK ⊢
  clear hL
  have w1_ : IntKind.i64.wrap (u - tk) = u - tk := by rw [IntKind.wrap_i64]; omega
  have w2_ : IntKind.i64.wrap (u - tk + t.length) = u - tk + t.length := by rw [IntKind.wrap_i64]; omega
  have w3_ : IntKind.i64.wrap (u - tk + t.length + x.length) = u - tk + t.length + x.length := by rw [IntKind.wrap_i64]; omega
  go_enter Tryz.func134, Tryz.ntmps134
  go_upto_region 1 with fail
  go_cut [7] (fun v wx => v = .int .i64 (u - tk + t.length + x.length) ∧ Hid (Upd (fun _ => False) w wx))
  case first =>
    go_region_with (go_at_call 137; refine (HK.out _ (Upd.refl _ w).drew).mono ?_; rintro e w1 ⟨rfl, hu⟩; have hu0' : Upd (fun _ => False) w w1 := (Upd.refl _ w).drew.trans hu; have d1 : w1.cell? ⟨s, 1, none⟩ = some (.int .i64 u) := (hu0'.cell hsl (fun h => h)).trans c1; have HU : Hid (Upd (fun _ => False) w w1) := hu0'; clear hu hu0')
    all_goals
      go_wp2_with fail
      go_meet
      exact ⟨rfl, HU⟩
  case rest =>
    obtain ⟨rfl, hu⟩ := hcut
    have hS := h.out.keep hu.out (fun h => h) (fun h => h)
    by_cases h400 : u - tk + t.length + x.length ≤ 400
    · obtain ⟨W, hW, hSW, hUW⟩ := hS.update t x
      have e0 : wc.cell? ⟨s, 0, none⟩ = some (.map (some m)) := cell_of_heap hS.blk 0
      have e1 : W.cell? ⟨s, 1, none⟩ = some (.int .i64 u) := cell_of_heap hSW.blk 1
      have g1 : W.frozen? ⟨s, 1, none⟩ = false := unfrozen_of_heap hSW.blk 1
      have HF : Hid (Sto (W.setCell ⟨s, 1, none⟩ (.int .i64 (u - tk + t.length + x.length))) s m (aput L t x) (u - tk + t.length + x.length) ∧ Upd (fun k => k = s ∨ k = m) w (W.setCell ⟨s, 1, none⟩ (.int .i64 (u - tk + t.length + x.length)))) :=
        ⟨hSW.setUsed _, ((hu.out.mono (fun _ _ h => h.elim)).trans (hUW.mono (fun _ _ h => Or.inr h))).trans ((Upd.one _ _ _ _).mono (fun _ _ h => Or.inl h))⟩
      clear hS hSW hUW hu
      go_wp2
      go_ret
      refine ⟨by first | rfl | exact ret_bool (decide_eq_true (by omega)).symm | exact ret_bool (decide_eq_false (by omega)).symm, HF.out.2, ?_, ?_⟩
      all_goals first | exact HF.out.1 | exact fun _ => HF.out.1 | exact fun h => absurd h (by omega)
    · have HF : Hid (Sto wc s m L u ∧ Upd (fun k => k = s ∨ k = m) w wc) := ⟨hS, hu.out.mono (fun _ _ h => h.elim)⟩
      clear hS hu
      go_wp2
      go_ret
      refine ⟨by first | rfl | exact ret_bool (decide_eq_true (by omega)).symm | exact ret_bool (decide_eq_false (by omega)).symm, HF.out.2, ?_, ?_⟩
      all_goals first | exact HF.out.1 | exact fun _ => HF.out.1 | exact fun h => absurd h (by omega)

set_option maxHeartbeats 800000 in
set_option maxRecDepth 100000 in
theorem delete_any {w : World} {s m : Nat} {L : Texts} {u : Int} (h : Hid (Sto w s m L u)) (t : List UInt8) (ht : t.length ≤ 1000) (hL : ∀ p ∈ L, p.2.length ≤ 100) (hu0 : -100000 ≤ u) (hu1 : u ≤ 100000) :
    Calls Tryz.prog 135 #[.pointer (some ⟨s, 0, none⟩), .string ⟨t.toArray⟩] w fun e w' =>
      e = .returned (.bool (aget L t).isSome) ∧ Upd (fun k => k = s ∨ k = m) w w' ∧ Sto w' s m (adel L t) (u - takenOf L t) := by
  have c0 : w.cell? ⟨s, 0, none⟩ = some (.map (some m)) := cell_of_heap h.out.blk 0
  have hsl := lt_of_heap h.out.blk
  have hl := h.out.look t
  obtain ⟨b0, b1⟩ := takenOf_bd L t hL ht
  have HK : Hid (∀ W, Upd (fun _ => False) w W → Calls Tryz.prog 137 #[.pointer (some ⟨s, 0, none⟩), .string ⟨t.toArray⟩] W fun e w' => e = .returned (.int .i64 (takenOf L t)) ∧ Upd (fun _ => False) W w') := fun W hW => taken_any (h.out.keep hW (fun h => h) (fun h => h)) t ht hL
  generalize takenOf L t = tk at b0 b1 HK ⊢
  generalize (aget L t).isSome = b at hl ⊢
  generalize (aget L t).getD [] = x at hl
  clear hL
  have w1_ : IntKind.i64.wrap (u - tk) = u - tk := by rw [IntKind.wrap_i64]; omega
  have hU1 := (Upd.refl (fun _ => False) w).alloc (.cells #[.string ⟨x.toArray⟩] 197)
  have hS1 := h.out.keep hU1 (fun h => h) (fun h => h)
  have k1 : (w.alloc (.cells #[.string ⟨x.toArray⟩] 197)).cell? ⟨s, 1, none⟩ = some (.int .i64 u) := cell_of_heap hS1.blk 1
  have q1 : (w.alloc (.cells #[.string ⟨x.toArray⟩] 197)).frozen? ⟨s, 1, none⟩ = false := unfrozen_of_heap hS1.blk 1
  have HU1 : Hid (Upd (fun _ => False) w (w.alloc (.cells #[.string ⟨x.toArray⟩] 197))) := hU1
  have hsl1 := lt_of_heap hS1.blk
  clear hS1 hU1
  go_enter Tryz.func135, Tryz.ntmps135
  go_upto_region 2 with fail
  go_cut [6] (fun v wx => v = .bool b ∧ Hid (Sto wx s m L (u - tk) ∧ Upd (fun k => k = s ∨ k = m) w wx))
  case first =>
    go_region_with (go_at_call 137; refine (HK.out _ HU1.out.drew).mono ?_; rintro e w1 ⟨rfl, hu⟩; have hu0' : Upd (fun _ => False) w w1 := HU1.out.drew.trans hu; have hS := h.out.keep hu0' (fun h => h) (fun h => h); have d1 : w1.cell? ⟨s, 1, none⟩ = some (.int .i64 u) := cell_of_heap hS.blk 1; have g1 : w1.frozen? ⟨s, 1, none⟩ = false := unfrozen_of_heap hS.blk 1; have HU : Hid (Sto (w1.setCell ⟨s, 1, none⟩ (.int .i64 (u - tk))) s m L (u - tk) ∧ Upd (fun k => k = s ∨ k = m) w (w1.setCell ⟨s, 1, none⟩ (.int .i64 (u - tk)))) := ⟨hS.setUsed _, (hu0'.mono (fun _ _ h => h.elim)).trans ((Upd.one _ _ _ _).mono (fun _ _ h => Or.inl h))⟩; clear hu hu0' hS)
    all_goals
      go_wp2_with fail
      go_meet
      exact ⟨rfl, HU⟩
  case rest =>
    obtain ⟨rfl, hu⟩ := hcut
    have hS := hu.out.1
    have e0 : wc.cell? ⟨s, 0, none⟩ = some (.map (some m)) := cell_of_heap hS.blk 0
    obtain ⟨W, hW, hSW, hUW⟩ := hS.erase t 0
    have HF : Hid (Sto W s m (adel L t) (u - tk) ∧ Upd (fun k => k = s ∨ k = m) w W) := ⟨hSW, hu.out.2.trans (hUW.mono (fun _ _ h => Or.inr h))⟩
    clear hS hSW hUW hu
    go_wp2
    go_ret
    exact ⟨rfl, HF.out.2, HF.out.1⟩

end Go.Proofs.YtiiapfkcmdkkoaaGreatDoor

/-
  The server's answers: get, put, remove.
-/
namespace Go.Proofs.YtiiapfkcmdkkoaaGreatDoor
open Go.RowKit Go.MapKept

/-- An answer. -/
structure Ans where
  status : List UInt8
  length : Nat
  text : List UInt8
  last : Bool
def ansV (a : Ans) : Value := .agg #[.string ⟨a.status.toArray⟩, .int .i64 a.length, .string ⟨a.text.toArray⟩, .bool a.last]

def st200 : List UInt8 := [50, 48, 48, 32, 79, 75]
def st201 : List UInt8 := [50, 48, 49, 32, 67, 114, 101, 97, 116, 101, 100]
def st204 : List UInt8 := [50, 48, 52, 32, 78, 111, 32, 67, 111, 110, 116, 101, 110, 116]
def st400 : List UInt8 := [52, 48, 48, 32, 66, 97, 100, 32, 82, 101, 113, 117, 101, 115, 116]
def st404 : List UInt8 := [52, 48, 52, 32, 78, 111, 116, 32, 70, 111, 117, 110, 100]
def st405 : List UInt8 := [52, 48, 53, 32, 77, 101, 116, 104, 111, 100, 32, 78, 111, 116, 32, 65, 108, 108, 111, 119, 101, 100]
def st413 : List UInt8 := [52, 49, 51, 32, 67, 111, 110, 116, 101, 110, 116, 32, 84, 111, 111, 32, 76, 97, 114, 103, 101]
def st431 : List UInt8 := [52, 51, 49, 32, 82, 101, 113, 117, 101, 115, 116, 32, 72, 101, 97, 100, 101, 114, 32, 70, 105, 101, 108, 100, 115, 32, 84, 111, 111, 32, 76, 97, 114, 103, 101]
def st507 : List UInt8 := [53, 48, 55, 32, 73, 110, 115, 117, 102, 102, 105, 99, 105, 101, 110, 116, 32, 83, 116, 111, 114, 97, 103, 101]

/-- The server's block S: its connections' map cm, its store s, m. -/
structure SrvT (w : World) (S s m cm wb made : Nat) (dr : Bool) (L : Texts) (u : Int) : Prop where
  blk : w.heap[S]? = some (.cells #[.map (some cm), .int .i64 made, .bool dr, .pointer (some ⟨s, 0, none⟩), .pointer (some ⟨wb, 0, none⟩)] 64 (0, 0))
  sto : Sto w s m L u

theorem SrvT.keep {M : Nat → Prop} {w w' : World} {S s m cm wb made : Nat} {dr : Bool} {L : Texts} {u : Int} (h : SrvT w S s m cm wb made dr L u) (hu : Upd M w w') (h0 : ¬ M S) (h1 : ¬ M s) (h2 : ¬ M m) : SrvT w' S s m cm wb made dr L u := ⟨hu.keep h.blk h0, h.sto.keep hu h1 h2⟩

def getAns (L : Texts) (t : List UInt8) : Ans := match aget L t with | some x => ⟨st200, x.length, x, false⟩ | none => ⟨st404, 0, [], false⟩

/-- A new block of an answer, behind a call. -/
theorem new4 {M : Nat → Prop} {w w1 : World} {a b c d : Value} {t : TypeId} (hu : Upd M (w.alloc (.cells #[a, b, c, d] t)) w1) (hM : ¬ M w.heap.size) : w1.heap[w.heap.size]? = some (.cells #[a, b, c, d] t (0, 0)) :=
  hu.keep (by rw [hpush]; simp) hM

abbrev zero4 : Obj := .cells #[.string ⟨#[]⟩, .int .i64 0, .string ⟨#[]⟩, .bool false] 156

theorem cells4 {w1 : World} {b : Nat} {v0 v1 v2 v3 : Value} {t : TypeId} (h : w1.heap[b]? = some (.cells #[v0, v1, v2, v3] t (0, 0))) :
    w1.cell? ⟨b, 0, none⟩ = some v0 ∧ w1.cell? ⟨b, 1, none⟩ = some v1 ∧ w1.cell? ⟨b, 2, none⟩ = some v2 ∧ w1.cell? ⟨b, 3, none⟩ = some v3 ∧ w1.frozen? ⟨b, 0, none⟩ = false ∧ w1.frozen? ⟨b, 1, none⟩ = false ∧ w1.frozen? ⟨b, 2, none⟩ = false ∧ w1.frozen? ⟨b, 3, none⟩ = false :=
  ⟨cell_of_heap h 0, cell_of_heap h 1, cell_of_heap h 2, cell_of_heap h 3, unfrozen_of_heap h 0, unfrozen_of_heap h 1, unfrozen_of_heap h 2, unfrozen_of_heap h 3⟩

/-- Four stores into a block beyond. -/
theorem Upd.four {M : Nat → Prop} {w w1 : World} (hu : Upd M w w1) (b : Nat) (hb : w.heap.size ≤ b) (v0 v1 v2 v3 : Value) : Upd M w ((((w1.setCell ⟨b, 0, none⟩ v0).setCell ⟨b, 1, none⟩ v1).setCell ⟨b, 2, none⟩ v2).setCell ⟨b, 3, none⟩ v3) :=
  (((hu.setCell (p := ⟨b, 0, none⟩) (fun h => absurd h (by show ¬ b < _; omega)) _).setCell (p := ⟨b, 1, none⟩) (fun h => absurd h (by show ¬ b < _; omega)) _).setCell (p := ⟨b, 2, none⟩) (fun h => absurd h (by show ¬ b < _; omega)) _).setCell (p := ⟨b, 3, none⟩) (fun h => absurd h (by show ¬ b < _; omega)) _

set_option maxHeartbeats 400000 in
theorem sget_any {w : World} {S s m cm wb made : Nat} {dr : Bool} {L : Texts} {u : Int} (h : Hid (SrvT w S s m cm wb made dr L u)) (t : List UInt8) (hL : ∀ p ∈ L, p.2.length ≤ 100) :
    Calls Tryz.prog 126 #[.pointer (some ⟨S, 0, none⟩), .string ⟨t.toArray⟩] w fun e w' => e = .returned (ansV (getAns L t)) ∧ Upd (fun _ => False) w w' := by
  have hU0 : Upd (fun _ => False) w (w.alloc zero4) := (Upd.refl _ w).alloc _
  have c3 : (w.alloc zero4).cell? ⟨S, 3, none⟩ = some (.pointer (some ⟨s, 0, none⟩)) := cell_of_heap (hU0.keep h.out.blk (fun h => h)) 3
  have HG : Hid (Calls Tryz.prog 133 #[.pointer (some ⟨s, 0, none⟩), .string ⟨t.toArray⟩] (w.alloc zero4) fun e w' => e = .returned (.tuple #[.string ⟨((aget L t).getD []).toArray⟩, .bool (aget L t).isSome]) ∧ Upd (fun _ => False) (w.alloc zero4) w') := get_any (h.out.sto.keep hU0 (fun h => h) (fun h => h)) t
  have HU0 : Hid (Upd (fun _ => False) w (w.alloc zero4)) := hU0
  clear hU0
  cases hg : aget L t with
  | none =>
    have HA : Hid (getAns L t = ⟨st404, 0, [], false⟩) := by show _ = _; unfold getAns; rw [hg]
    rw [hg] at HG
    simp only [Option.isSome_none, Option.getD_none] at HG
    clear hg hL
    go_enter Tryz.func126, Tryz.ntmps126
    go_wp2_with fail
    refine HG.out.mono ?_
    rintro e w1 ⟨rfl, hu⟩
    obtain ⟨d0, d1, d2, d3, g0, g1, g2, g3⟩ := cells4 (new4 hu (fun h => h))
    have HU : Hid (Upd (fun _ => False) w w1) := HU0.out.trans hu
    clear hu
    go_wp2
    rw [HA.out]
    exact bodyPost_ret (v := ansV ⟨st404, 0, [], false⟩) (by simp [results, Tryz.results126, go_sem, d0, d1, d2, d3, ansV, st404]) rfl ⟨rfl, HU.out.four _ (Nat.le_refl _) _ _ _ _⟩
  | some x =>
    have HA : Hid (getAns L t = ⟨st200, x.length, x, false⟩) := by show _ = _; unfold getAns; rw [hg]
    have hx : x.length ≤ 100 := by
      unfold aget at hg
      obtain ⟨p, hp, rfl⟩ := Option.map_eq_some_iff.1 hg
      exact hL p (List.mem_of_getElem? hp)
    rw [hg] at HG
    simp only [Option.isSome_some, Option.getD_some] at HG
    clear hg hL
    go_enter Tryz.func126, Tryz.ntmps126
    go_wp2_with fail
    refine HG.out.mono ?_
    rintro e w1 ⟨rfl, hu⟩
    obtain ⟨d0, d1, d2, d3, g0, g1, g2, g3⟩ := cells4 (new4 hu (fun h => h))
    have HU : Hid (Upd (fun _ => False) w w1) := HU0.out.trans hu
    clear hu
    go_wp2
    rw [HA.out]
    exact bodyPost_ret (v := ansV ⟨st200, x.length, x, false⟩) (by simp [results, Tryz.results126, go_sem, d0, d1, d2, d3, ansV, st200]) rfl ⟨rfl, HU.out.four _ (Nat.le_refl _) _ _ _ _⟩

end Go.Proofs.YtiiapfkcmdkkoaaGreatDoor
