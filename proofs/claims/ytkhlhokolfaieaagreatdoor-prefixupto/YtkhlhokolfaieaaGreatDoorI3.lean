import Derived.Test.YtkhlhokolfaieaaGreatDoorI2
/-
  New, Connect.
-/
namespace Go.Proofs.YtkhlhokolfaieaaGreatDoor
open Go.RowKit Go.MapKept

/-- A server of no connection yet. -/
structure Fr (N : Nat) (F : Nat → Prop) (w : World) (S : Nat) (s m cm : Nat) : Prop where
  srv : SrvT w S s m cm 0 false [] 0
  cms : Cm w cm []
  own : F S ∧ F s ∧ F m ∧ F cm
  ne : cm ≠ m
  low : ∀ k, F k → N ≤ k ∧ k < w.heap.size
  tb : Tb N w

theorem Fr.keep {N : Nat} {F M : Nat → Prop} {w w' : World} {S s m cm : Nat} (h : Fr N F w S s m cm) (hu : Upd M w w') (hd : ∀ k, F k → ¬ M k) (hM : ∀ k, M k → N ≤ k) : Fr N F w' S s m cm := {
  srv := h.srv.keep hu (hd _ h.own.1) (hd _ h.own.2.1) (hd _ h.own.2.2.1)
  cms := h.cms.keep hu (hd _ h.own.2.2.2)
  own := h.own
  ne := h.ne
  low := fun k hk => ⟨(h.low k hk).1, Nat.lt_of_lt_of_le (h.low k hk).2 hu.size⟩
  tb := h.tb.keep (hu.below (by have := h.low S h.own.1; omega) (fun k hk e => by have := hM k e; omega)) }

theorem news_end {N : Nat} {w w1 : World} (hT : Hid (Tb N w)) (hN : N ≤ w.heap.size) (hs1 : Sto w1 (w.heap.size + 1 + 1) (w.heap.size + 1) [] 0) (hu1 : Upd (fun _ => False) (w.alloc (.map #[] 0)) w1) (hz1 : w1.heap.size = w.heap.size + 1 + 2) :
    Fr N (fun k => w.heap.size ≤ k ∧ k < (w1.alloc (.cells #[.map (some w.heap.size), .int .i64 0, .bool false, .pointer (some ⟨w.heap.size + 1 + 1, 0, none⟩)] 50)).heap.size) (w1.alloc (.cells #[.map (some w.heap.size), .int .i64 0, .bool false, .pointer (some ⟨w.heap.size + 1 + 1, 0, none⟩)] 50)) w1.heap.size (w.heap.size + 2) (w.heap.size + 1) w.heap.size ∧ Upd (fun _ => False) w (w1.alloc (.cells #[.map (some w.heap.size), .int .i64 0, .bool false, .pointer (some ⟨w.heap.size + 1 + 1, 0, none⟩)] 50)) := by
  have hcm : (w.alloc (.map #[] 0)).heap[w.heap.size]? = some (.map #[] 0) := heap_alloc_new w _
  generalize hW : w1.alloc (.cells #[.map (some w.heap.size), .int .i64 0, .bool false, .pointer (some ⟨w.heap.size + 1 + 1, 0, none⟩)] 50) = W
  have U2 : Same w1 W := by rw [← hW]; exact (Upd.refl _ _).alloc _
  have U : Same w W := (((Upd.refl _ w).alloc _).trans hu1).trans U2
  have hz : W.heap.size = w.heap.size + 4 := by rw [← hW]; simp; omega
  refine ⟨⟨⟨?_, ?_⟩, ⟨#[], 0, ?_, rfl⟩, ⟨?_, ?_, ?_, ?_⟩, by omega, fun k hk => ⟨by omega, hk.2⟩, hT.out.keep (U.below hN (fun _ _ h => h))⟩, U⟩
  · rw [← hW]; exact heap_alloc_new w1 _
  · exact hs1.keep U2 (fun h => h) (fun h => h)
  · exact U2.keep (hu1.keep hcm (fun h => h)) (fun h => h)
  · omega
  · omega
  · omega
  · omega

set_option maxHeartbeats 800000 in
set_option maxRecDepth 100000 in
theorem new_any (N : Nat) (w : World) (hT : Hid (Tb N w)) (hN : N ≤ w.heap.size) :
    Calls Tryz.prog 8 #[] w fun e w' => ∃ S s m cm, e = .returned (.pointer (some ⟨S, 0, none⟩)) ∧ Fr N (fun k => w.heap.size ≤ k ∧ k < w'.heap.size) w' S s m cm ∧ Upd (fun _ => False) w w' := by
  have hmk : ∀ W : World, (Instr.makeMap 46 none).run Tryz.prog W = .ok (.map (some W.heap.size)) (W.alloc (.map #[] 0)) := fun W => by simp [Instr.makeMap, Result.andThen]
  go_enter Tryz.func8, Tryz.ntmps8
  go_wp2_with fail
  refine (storeNew_any _).mono ?_
  rintro e w1 ⟨rfl, hs1, hu1, hz1⟩
  have hsz : (w.alloc (.map #[] 0)).heap.size = w.heap.size + 1 := by simp
  rw [hsz] at hs1 hz1
  have HE := hid (news_end hT hN hs1 hu1 hz1)
  rw [hsz]
  clear hs1 hu1 hz1 hsz
  go_wp2
  go_ret
  exact ⟨w1.heap.size, w.heap.size + 2, w.heap.size + 1, w.heap.size, rfl, HE.out.1, HE.out.2⟩

/-- A connection is made. -/
theorem connected {N : Nat} {F : Nat → Prop} {w W0 : World} {S s m cm : Nat} (h : Fr N F w S s m cm) (hW0 : W0 = (w.setCell ⟨S, 1, none⟩ (.int .i64 1)).alloc (.cells #[restingV, .slice none 0 0, .slice none 0 0] 58)) :
    ∃ W1, (Instr.mapUpdate 46 (.map (some cm)) (.int .i64 0) (.pointer (some ⟨w.heap.size, 0, none⟩))).run Tryz.prog W0 = .ok () W1 ∧ SvX N F w W1 S ⟨s, m, cm, w.heap.size⟩ ⟨⟨0, RS.start, [], []⟩, [], 0, true⟩ := by
  have U0 : Upd (fun k => k = S) w W0 := by rw [hW0]; exact (Upd.one w S 1 _).alloc _
  have hbc : W0.heap[w.heap.size]? = some (.cells #[restingV, .slice none 0 0, .slice none 0 0] 58 (0, 0)) := by
    have := heap_alloc_new (w.setCell ⟨S, 1, none⟩ (.int .i64 1)) (.cells #[restingV, .slice none 0 0, .slice none 0 0] 58)
    rw [size_setCell] at this
    rw [hW0]; exact this
  have hSl := lt_of_heap h.srv.blk
  have hbS : W0.heap[S]? = some (.cells #[.map (some cm), .int .i64 1, .bool false, .pointer (some ⟨s, 0, none⟩)] 50 (0, 0)) := by
    have := heap_setCell h.srv.blk 1 (.int .i64 1)
    rw [hW0]
    exact (heap_alloc_old (w.setCell ⟨S, 1, none⟩ (.int .i64 1)) _ (by rw [size_setCell]; exact hSl)).trans (by simpa using this)
  have hz : W0.heap.size = w.heap.size + 1 := by rw [hW0]; simp
  obtain ⟨es, clock, hb, he⟩ := h.cms
  have hne1 : cm ≠ S := fun e => by rw [e, h.srv.blk] at hb; simp at hb
  have hne2 : cm ≠ s := fun e => by rw [e, h.srv.sto.blk] at hb; simp at hb
  have hns : s ≠ S := fun e => by have := h.srv.sto.blk; rw [e, h.srv.blk] at this; simp at this
  have hnm : m ≠ S := fun e => by obtain ⟨es', cl', h3, _⟩ := h.srv.sto.map; rw [e, h.srv.blk] at h3; simp at h3
  have hb0 : W0.heap[cm]? = some (.map es clock) := U0.keep hb hne1
  obtain ⟨es', clock', h5, h6⟩ := run_update_ents (P := Tryz.prog) (w := W0) (vv := ptrV) Tryz.und46 Tryz.und3' int_key int_inj hb0 he 0 w.heap.size
  refine ⟨_, h5, ?_⟩
  have U1 : Upd (fun k => k = cm) W0 { W0 with heap := W0.heap.setIfInBounds cm (.map es' clock') } := Upd.setObj _
  have hcm1 : ({ W0 with heap := W0.heap.setIfInBounds cm (.map es' clock') } : World).heap[cm]? = some (.map es' clock') := (MapKept.heap_set hb0 (o' := .map es' clock')).1
  generalize hW1 : ({ W0 with heap := W0.heap.setIfInBounds cm (.map es' clock') } : World) = W1 at U1 hcm1
  have U : Upd (fun k => k = S ∨ k = cm) w W1 := (U0.mono (fun _ _ h => Or.inl h)).trans (U1.mono (fun _ _ h => Or.inr h))
  have hcml := lt_of_heap hb
  have hz1 := U1.size
  refine ⟨fun k => F k ∨ k = w.heap.size, fun k => k = w.heap.size, restingV, .slice none 0 0, .slice none 0 0, ⟨⟨?_, ?_⟩, ⟨es', clock', hcm1, h6⟩, ⟨?_, Row.nil _, Row.nil _, ?_, rfl, ?_, ?_, ?_, Or.inl ⟨rfl, rfl⟩⟩, fun k hk => Or.inr hk, ⟨Or.inl h.own.1, Or.inl h.own.2.1, Or.inl h.own.2.2.1, Or.inl h.own.2.2.2⟩, ⟨?_, ?_, ?_, ?_⟩, h.ne, ?_, ?_, ⟨RInv.start, by decide, by decide⟩, TInv.nil⟩, U.mono ?_, ?_⟩
  · exact U1.keep hbS (fun e => hne1 e.symm)
  · exact h.srv.sto.keep U (by rintro (e | e); exact hns e; exact hne2 e.symm) (by rintro (e | e); exact hnm e; exact h.ne e.symm)
  · exact U1.keep hbc (by show ¬ w.heap.size = cm; omega)
  · intro k hk; cases hk
  · intro k hk; cases hk
  · intro k hk; cases hk
  · rintro k rfl; omega
  · intro e; have : S = w.heap.size := e; omega
  · intro e; have := (h.low s h.own.2.1).2; have : s = w.heap.size := e; omega
  · intro e; have := (h.low m h.own.2.2.1).2; have : m = w.heap.size := e; omega
  · intro e; have : cm = w.heap.size := e; omega
  · have hS := h.low S h.own.1
    rintro k (hk | hk)
    · have := h.low k hk; omega
    · omega
  · have hS := h.low S h.own.1
    exact h.tb.keep (U.below (by omega) (by rintro k hk (rfl | rfl); omega; have := h.low _ h.own.2.2.2; omega))
  · rintro k _ (rfl | rfl)
    · exact h.own.1
    · exact h.own.2.2.2
  · rintro k (hk | hk)
    · exact Or.inl hk
    · right; omega

set_option maxHeartbeats 800000 in
set_option maxRecDepth 100000 in
theorem connect_any {N : Nat} {F : Nat → Prop} {w : World} {S s m cm : Nat} (h : Hid (Fr N F w S s m cm)) :
    Calls Tryz.prog 9 #[.pointer (some ⟨S, 0, none⟩)] w fun e w' => e = .returned (.tuple #[.int .i64 0, .bool true]) ∧ ∃ c, SvX N F w w' S ⟨s, m, cm, c⟩ ⟨⟨0, RS.start, [], []⟩, [], 0, true⟩ := by
  have c0 : w.cell? ⟨S, 0, none⟩ = some (.map (some cm)) := cell_of_heap h.out.srv.blk 0
  have c1 : w.cell? ⟨S, 1, none⟩ = some (.int .i64 0) := cell_of_heap h.out.srv.blk 1
  have c2 : w.cell? ⟨S, 2, none⟩ = some (.bool false) := cell_of_heap h.out.srv.blk 2
  have f1 : w.frozen? ⟨S, 1, none⟩ = false := unfrozen_of_heap h.out.srv.blk 1
  obtain ⟨es, clock, hb, he⟩ := h.out.cms
  have hes : es = #[] := by
    unfold Ents at he
    simpa using he
  subst hes
  have hlen : ∀ ty, (Builtin.len_ #[46] ty #[.map (some cm)]).run Tryz.prog w = .ok (.int .i64 0) w := by
    intro ty
    simp [Builtin.len_, MapKept.run_getObj_map hb, Result.andThen]
    rfl
  obtain ⟨W1, hW1, hs1⟩ := connected h.out rfl
  have HE := hid hs1
  unfold restingV at hW1
  clear hs1
  go_enter Tryz.func9, Tryz.ntmps9
  go_wp2
  go_ret2
  exact ⟨rfl, w.heap.size, HE.out⟩

end Go.Proofs.YtkhlhokolfaieaaGreatDoor
