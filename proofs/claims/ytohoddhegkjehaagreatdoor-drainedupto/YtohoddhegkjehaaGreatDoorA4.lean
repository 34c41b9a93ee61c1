import Derived.Test.YtohoddhegkjehaaGreatDoorA3
/-
  The closure that 'piece' makes: a byte of its run is kept.
-/
namespace Go.Proofs.YtohoddhegkjehaaGreatDoor
open Go.RowKit

theorem Clo.far {w : World} {B r : Nat} {at_ kept met least most : Int} {has keep : Value} {ending : ByteArray} {nextv : Value} (h : Clo w B r at_ kept met least most has keep ending nextv) {v : Value} {bs : List UInt8} (hrow : Row w v bs) :
    ∀ k, B ≤ k → k < B + 8 → v.ownBlock ≠ some k := by
  have hne : ∀ k cs t, w.heap[k]? = some (.cells cs t (0, 0)) → t ≠ 5 → v.ownBlock ≠ some k := by
    intro k cs t hk ht he
    obtain ⟨cur, hcur⟩ := hrow.block k he
    rw [hk] at hcur
    simp at hcur
    exact ht hcur.2
  intro k h1 h2
  have hc : k = B ∨ k = B + 1 ∨ k = B + 2 ∨ k = B + 3 ∨ k = B + 4 ∨ k = B + 5 ∨ k = B + 6 ∨ k = B + 7 := by omega
  rcases hc with rfl | rfl | rfl | rfl | rfl | rfl | rfl | rfl
  · exact hne _ _ _ h.b0 (by decide)
  · exact hne _ _ _ h.b1 (by decide)
  · exact hne _ _ _ h.b2 (by decide)
  · exact hne _ _ _ h.b3 (by decide)
  · exact hne _ _ _ h.b4 (by decide)
  · exact hne _ _ _ h.b5 (by decide)
  · exact hne _ _ _ h.b6 (by decide)
  · exact hne _ _ _ h.b7 (by decide)

theorem Row.far {w : World} {v : Value} {bs : List UInt8} (hrow : Row w v bs) {k : Nat} {cs : Array Value} {t : TypeId} (hk : w.heap[k]? = some (.cells cs t (0, 0))) (ht : t ≠ 5) : v.ownBlock ≠ some k := by
  intro he
  obtain ⟨cur, hcur⟩ := hrow.block k he
  rw [hk] at hcur
  simp at hcur
  exact ht hcur.2

theorem keep_end {w w1 : World} {B r f hf : Nat} {b : UInt8} {kept least most met : Int} {ending : ByteArray} {nextv : Value} {c : Array Value} {v v2 : Value} {bs : List UInt8}
    (h : Clo w B r 0 kept met least most (.func (.func hf) #[] #[]) (.pointer (some ⟨r, f, none⟩)) ending nextv) (hr : w.heap[r]? = some (.cells c 157 (0, 0))) (hrow : Row w v bs)
    (U : Upd (fun k => v.ownBlock = some k) w w1) (hrow1 : Row w1 v2 (bs ++ [b])) (hfr : ∀ k, v2.ownBlock = some k → v.ownBlock = some k ∨ w.heap.size + 1 ≤ k) :
    ∃ v', Upd (fun k => k = r ∨ k = B + 5 ∨ v.ownBlock = some k) w ((w1.setCell ⟨r, f, none⟩ v2).setCell ⟨B + 5, 0, none⟩ (.int .i64 (kept + 1))) ∧
      ((w1.setCell ⟨r, f, none⟩ v2).setCell ⟨B + 5, 0, none⟩ (.int .i64 (kept + 1))).heap[r]? = some (.cells (c.setIfInBounds f v') 157 (0, 0)) ∧ ((w1.setCell ⟨r, f, none⟩ v2).setCell ⟨B + 5, 0, none⟩ (.int .i64 (kept + 1))).heap[B + 5]? = some (.cells #[.int .i64 (kept + 1)] 3 (0, 0)) ∧
      Row ((w1.setCell ⟨r, f, none⟩ v2).setCell ⟨B + 5, 0, none⟩ (.int .i64 (kept + 1))) v' (bs ++ [b]) ∧ (∀ k, v'.ownBlock = some k → v.ownBlock = some k ∨ w.heap.size ≤ k) := by
  have hrB : r ≠ B + 5 := by intro e; rw [e, h.b5] at hr; simp at hr
  have hF := h.far hrow (B + 5) (by omega) (by omega)
  have hG := hrow.far hr (by decide)
  have r1 : w1.heap[r]? = some (.cells c 157 (0, 0)) := U.keep hr hG
  have b1 : w1.heap[B + 5]? = some (.cells #[.int .i64 kept] 3 (0, 0)) := U.keep h.b5 hF
  have hrl := lt_of_heap hr
  have hbl := lt_of_heap h.b5
  have U1 : Upd (fun k => k = r ∨ k = B + 5 ∨ v.ownBlock = some k) w w1 := U.mono (fun k _ h => Or.inr (Or.inr h))
  have U2 := (U1.setCell (p := ⟨r, f, none⟩) (fun _ => Or.inl rfl) v2).setCell (p := ⟨B + 5, 0, none⟩) (fun _ => Or.inr (Or.inl rfl)) (.int .i64 (kept + 1))
  refine ⟨v2, U2, ?_, ?_, ?_, fun k hk => (hfr k hk).imp id (by omega)⟩
  · rw [Below.heap_setCell _ _ _ _ (by exact hrB)]
    exact heap_setCell r1 f v2
  · have := heap_setCell (w := w1.setCell ⟨r, f, none⟩ v2) (b := B + 5) ((Below.heap_setCell _ _ _ _ (by exact Ne.symm hrB)).trans b1) 0 (.int .i64 (kept + 1))
    simpa using this
  · have U3 : Upd (fun k => k = r ∨ k = B + 5) w1 ((w1.setCell ⟨r, f, none⟩ v2).setCell ⟨B + 5, 0, none⟩ (.int .i64 (kept + 1))) := ((Upd.refl _ _).setCell (p := ⟨r, f, none⟩) (fun _ => Or.inl rfl) v2).setCell (p := ⟨B + 5, 0, none⟩) (fun _ => Or.inr rfl) _
    refine hrow1.keep U3 ?_
    rintro k hk (rfl | rfl)
    · exact hrow1.far r1 (by decide) hk
    · exact hrow1.far b1 (by decide) hk

set_option maxHeartbeats 1000000 in
theorem clo0_keep (w : World) (B r : Nat) (b : UInt8) (kept least most met : Int) (f hf : Nat) (ending : ByteArray) (nextv : Value) (c : Array Value) (v : Value) (bs : List UInt8)
    (h : Clo w B r 0 kept met least most (.func (.func hf) #[] #[]) (.pointer (some ⟨r, f, none⟩)) ending nextv) (hk : kept < most) (h0 : 0 ≤ kept) (hmx : most ≤ 1000)
    (hr : w.heap[r]? = some (.cells c 157 (0, 0))) (hcf : c[f]? = some v) (hrow : Row w v bs) (hlen : bs.length ≤ 1000)
    (henth : Ent hf) (hhas : Hid (∀ W : World, Calls Tryz.prog hf #[.int .u8 b.toNat] W fun e w' => e = .returned (.bool true) ∧ w' = W)) :
    Calls Tryz.prog 111 (cloArgs b.toNat B) w fun e w' => e = .returned (cloV B) ∧ ∃ v', Upd (fun k => k = r ∨ k = B + 5 ∨ v.ownBlock = some k) w w' ∧
      w'.heap[r]? = some (.cells (c.setIfInBounds f v') 157 (0, 0)) ∧ w'.heap[B + 5]? = some (.cells #[.int .i64 (kept + 1)] 3 (0, 0)) ∧ Row w' v' (bs ++ [b]) ∧ (∀ k, v'.ownBlock = some k → v.ownBlock = some k ∨ w.heap.size ≤ k) := by
  obtain ⟨c0, c10, c11, c12, c13, c2, c3, c4, c5, c6, c7, f4, f5, f6⟩ := h.cells
  have cr : w.cell? ⟨r, f, none⟩ = some v := (cell_of_heap hr f).trans hcf
  have fr : w.frozen? ⟨r, f, none⟩ = false := unfrozen_of_heap hr f
  have hrlt := lt_of_heap hr
  have hBlt := lt_of_heap h.b7
  have hrB5 : r ≠ B + 5 := by intro e; rw [e, h.b5] at hr; simp at hr
  have hrB7 : r ≠ B + 7 := by intro e; rw [e, h.b7] at hr; simp at hr
  obtain ⟨ao, ln, cp, hv⟩ : ∃ ao ln cp, v = .slice ao ln cp := by
    rcases hrow.form with ⟨h1, _⟩ | ⟨g, cap, h1⟩
    · exact ⟨_, _, _, h1⟩
    · exact ⟨_, _, _, h1⟩
  subst hv
  have HB : Hid (Clo w B r 0 kept met least most (.func (.func hf) #[] #[]) (.pointer (some ⟨r, f, none⟩)) ending nextv) := h
  have HR : Hid (w.heap[r]? = some (.cells c 157 (0, 0))) := hr
  have HC : Hid (c[f]? = some (.slice ao ln cp)) := hcf
  have HF : Hid (∀ k, B ≤ k → k < B + 8 → (Value.slice ao ln cp).ownBlock ≠ some k) := h.far hrow
  have HG : Hid ((Value.slice ao ln cp).ownBlock ≠ some r) := hrow.far hr (by decide)
  have HW : Hid (Row w (.slice ao ln cp) bs) := hrow
  clear h hr hcf hrow
  have e13 : ∀ o, (w.alloc o).cell? ⟨B + 1, 3, none⟩ = some (.pointer (some ⟨r, f, none⟩)) := fun o => (World.cell?_alloc_past _ _ _ (show B + 1 < w.heap.size by omega)).trans c13
  have er : ∀ o, (w.alloc o).cell? ⟨r, f, none⟩ = some (.slice ao ln cp) := fun o => (World.cell?_alloc_past _ _ _ hrlt).trans cr
  unfold cloV at c7 ⊢
  go_enter Tryz.func111, Tryz.ntmps111
  go_wp2_with (refine (hhas.out _).mono ?_; rintro e w' ⟨rfl, hw⟩; rw [hw]; clear hw w')
  go_region_law (
    (refine step_append_row rfl (.tmp 31) (.tmp 33) rfl (.slice ao ln cp) bs (by simp [Act.eval]) (by exact HW.out.keep ((Upd.refl (fun _ => False) _).alloc _).drew (fun _ _ h => h)) ⟨w.heap.size, 0, none⟩ 1 1 [b] (by simp [Act.eval]) rfl (by intro j u hj; match j, hj with | 0, hj => simp at hj; subst hj; simp [Addr.add, byteV]) (by omega) ?_
     intro v2 w1 hrow1 hgr hfr hiff
     have U : Upd (fun k => (Value.slice ao ln cp).ownBlock = some k) w w1 := ((Upd.refl _ _).alloc _).drew.grown hgr (fun k _ h => h)
     obtain ⟨d0, d10, d11, d12, d13, d2, d3, d4, d5, d6, d7, g4, g5, g6⟩ := (HB.out.keep U HF.out).cells
     have dr : w1.cell? ⟨r, f, none⟩ = some (.slice ao ln cp) := (U.cell hrlt HG.out).trans cr
     have gr : w1.frozen? ⟨r, f, none⟩ = false := (U.frozen hrlt HG.out).trans fr
     obtain ⟨g, cap2, hv2⟩ : ∃ g cap2, v2 = .slice (some ⟨g, 0, none⟩) (bs.length + 1) cap2 := by
       rcases hrow1.form with ⟨_, h1⟩ | ⟨g, cap, h1⟩
       · simp at h1
       · exact ⟨g, cap, by simpa using h1⟩
     subst hv2
     have HE : Hid (∃ v', Upd (fun k => k = r ∨ k = B + 5 ∨ (Value.slice ao ln cp).ownBlock = some k) w ((w1.setCell ⟨r, f, none⟩ (.slice (some ⟨g, 0, none⟩) (bs.length + 1) cap2)).setCell ⟨B + 5, 0, none⟩ (.int .i64 (kept + 1))) ∧ _ ∧ _ ∧ _ ∧ _) := keep_end HB.out HR.out HW.out U hrow1 (by simpa using hfr)
     clear U hrow1 hgr hfr hiff
     unfold cloV at d7))
  all_goals
    go_wp2
    go_ret
    exact ⟨rfl, HE.out⟩

end Go.Proofs.YtohoddhegkjehaaGreatDoor
