import Derived.Test.YtohoddhegkjehaaGreatDoorD8
/-
  NewReader; what a connection does: read, listens.
-/
namespace Go.Proofs.YtohoddhegkjehaaGreatDoor
open Go.RowKit Go.MapKept

def RS.zero : RS := ⟨0, 0, 0, 0, 0, 0, false, 0, [], [], [], [], false, 0, 0, [], []⟩
/-- A reader of which no byte was read. -/
def RS.start : RS := RS.zero.fresh 3

abbrev zeroR : Obj := .cells #[.nilFunc, .int .i64 0, .bool false, .int .i64 0, .slice none 0 0, .slice none 0 0, .slice none 0 0, .slice none 0 0, .bool false, .int .i64 0, .int .i64 0, .slice none 0 0, .slice none 0 0] 157

theorem zero_rdr (w : World) : RdrB (fun k => k = w.heap.size) (w.alloc zeroR) w.heap.size RS.zero .nilFunc (fun _ => .slice none 0 0) := {
  blk := by rw [hpush]; simp [RS.zero]
  row := by rintro f (rfl | rfl | rfl | rfl | rfl | rfl) <;> exact Row.nil _
  sep := by intro f g _ _ _ k hk; cases hk
  fr := rfl
  own := by intro f _ k hk; cases hk
  lt := by rintro k rfl; simp }

set_option maxHeartbeats 400000 in
theorem newReader_any (w : World) : Calls Tryz.prog 102 #[] w fun e w' => e = .returned (.pointer (some ⟨w.heap.size, 0, none⟩)) ∧ (∃ F', Rd F' w' w.heap.size RS.start ∧ ∀ k, F' k → w.heap.size ≤ k ∧ k < w'.heap.size) ∧ Upd (fun _ => False) w w' := by
  have HB : Hid (RdrB (fun k => k = w.heap.size) (w.alloc zeroR) w.heap.size RS.zero .nilFunc (fun _ => .slice none 0 0)) := zero_rdr w
  go_enter Tryz.func102, Tryz.ntmps102
  go_wp2_with fail
  refine Calls.mono (readMethod_makes HB.out) ?_
  rintro e w1 ⟨sv, rfl, hm⟩
  obtain ⟨F1, ⟨⟨R1, hB1⟩, hC1⟩, hU1, hf1⟩ := id hm
  have d0 : w1.cell? ⟨w.heap.size, 0, none⟩ = some .nilFunc := hB1.cell 0
  have g0 : w1.frozen? ⟨w.heap.size, 0, none⟩ = false := hB1.unfrozen 0
  obtain ⟨B, rfl, _⟩ : ∃ B, sv = cloV B ∧ _ := hC1
  have HE : Hid ((∃ F', Rd F' (w1.setCell ⟨w.heap.size, 0, none⟩ (cloV B)) w.heap.size RS.start ∧ ∀ k, F' k → w.heap.size ≤ k ∧ k < (w1.setCell ⟨w.heap.size, 0, none⟩ (cloV B)).heap.size) ∧ Upd (fun _ => False) w (w1.setCell ⟨w.heap.size, 0, none⟩ (cloV B))) := by
    obtain ⟨F2, h1, h2, h3⟩ := made_stored hm
    have hsz : ∀ o, (w.alloc o).heap.size = w.heap.size + 1 := fun o => by simp
    have q := h2.size
    rw [hsz] at q
    refine ⟨⟨F2, h1, fun k hk => ?_⟩, ⟨h2.os, h2.tape, h2.output, ?_, fun k hk _ => ?_⟩⟩
    · rcases h3 k hk with rfl | h4
      · exact ⟨Nat.le_refl _, by omega⟩
      · rw [hsz] at h4; omega
    · omega
    · rw [h2.block k (by rw [hsz]; omega) (by omega)]
      exact Below.heap_alloc _ _ _ hk
  clear hm hB1 hU1 hf1
  unfold cloV at *
  go_wp2
  go_ret
  exact ⟨rfl, HE.out⟩


/-- reading: no byte ends the request. -/
def readingV (r : Nat) : Value := .iface 150 (.agg #[.pointer (some ⟨r, 0, none⟩)])
def restingV : Value := .iface 53 (.agg #[])
def leavingV : Value := .iface 106 (.agg #[])

theorem hid {p : Prop} (h : p) : Hid p := h
theorem alloc_at (w : World) (o : Obj) : (w.alloc o).heap[w.heap.size]? = some o := by rw [hpush]; simp
theorem Rd.lt {F : Nat → Prop} {w : World} {r : Nat} {σ : RS} (h : Rd F w r σ) : ∀ k, F k → k < w.heap.size := by
  obtain ⟨sv, ⟨R, hB⟩, _⟩ := h
  exact hB.lt

/-- What a byte that is read by a connection's reader leaves: r, the reader; e, what is answered. -/
def ReadStep (F : Nat → Prop) (w w' : World) (r : Nat) (σ' : RS) (e : Ending) : Prop :=
  ∃ F', Rd F' w' r σ' ∧ Upd F w w' ∧ (∀ k, F' k → F k ∨ (w.heap.size ≤ k ∧ k < w'.heap.size)) ∧
    ((σ'.tag ≠ 0 ∧ e = .returned (.tuple #[readingV r, .pointer none])) ∨ (σ'.tag = 0 ∧ ∃ p, e = .returned (.tuple #[restingV, .pointer (some ⟨p, 0, none⟩)]) ∧ w'.heap[p]? = some (.cells (reqCells σ'.req) 103 (0, 0)) ∧ w.heap.size ≤ p ∧ p < w'.heap.size))

set_option maxHeartbeats 800000 in
set_option maxRecDepth 100000 in
theorem readingRead_any {F : Nat → Prop} {w : World} {r : Nat} {σ : RS} (b : UInt8) (h : Hid (Rd F w r σ)) (g : Hid (Good σ)) (g2 : Hid (Good (σ.read b))) (h0 : σ.tag ≠ 0) (hct : σ.count ≤ 1000000000) :
    Calls Tryz.prog 103 #[.agg #[.pointer (some ⟨r, 0, none⟩)], .int .u8 b.toNat] w fun e w' => ReadStep F w w' r (σ.read b) e := by
  have hU0 : Upd (fun _ => False) w (w.alloc (.cells #[.pointer (some ⟨r, 0, none⟩)] 150)) := (Upd.refl _ w).alloc _
  have HR := hid (read_any (hid parse_hex) (h.out.keep hU0 (fun _ _ h => h)) g.out h0 hct b)
  have HU0 := hid hU0
  have HL := hid h.out.lt
  clear hU0 h g
  cases ht : decide ((σ.read b).tag = 0)
  · have ht' : (σ.read b).tag ≠ 0 := of_decide_eq_false ht
    rw [ht] at HR
    have HT := hid ht'
    clear ht ht'
    go_enter Tryz.func103, Tryz.ntmps103
    go_wp2_with fail
    refine HR.out.mono ?_
    rintro e w1 ⟨rfl, F1, hr1, hu1, hf1⟩
    have hn : ¬ F w.heap.size := fun e => absurd (HL.out _ e) (Nat.lt_irrefl _)
    have d0 : w1.cell? ⟨w.heap.size, 0, none⟩ = some (.pointer (some ⟨r, 0, none⟩)) := cell_of_heap (hu1.keep (alloc_at w _) hn) 0
    have HE : Hid (ReadStep F w w1 r (σ.read b) (.returned (.tuple #[readingV r, .pointer none]))) := by
      refine ⟨F1, hr1, (HU0.out.mono (fun _ _ h => h.elim)).trans hu1, fun k hk => ?_, Or.inl ⟨HT.out, rfl⟩⟩
      rcases hf1 k hk with h1 | h1
      · exact Or.inl h1
      · right; have := HU0.out.size; omega
    clear hr1 hu1 hf1 hn
    go_wp2
    go_ret2
    exact HE.out
  · have ht' : (σ.read b).tag = 0 := of_decide_eq_true ht
    rw [ht] at HR
    have HT := hid ht'
    clear ht ht'
    go_enter Tryz.func103, Tryz.ntmps103
    go_wp2_with fail
    refine HR.out.mono ?_
    rintro e w1 ⟨rfl, F1, hr1, hu1, hf1⟩
    have hn : ¬ F w.heap.size := fun e => absurd (HL.out _ e) (Nat.lt_irrefl _)
    have d0 : w1.cell? ⟨w.heap.size, 0, none⟩ = some (.pointer (some ⟨r, 0, none⟩)) := cell_of_heap (hu1.keep (alloc_at w _) hn) 0
    have HR1 := hid hr1
    have HU1 := hid ((HU0.out.mono (fun _ _ h => h.elim)).trans hu1)
    have HF1 : Hid (∀ k, F1 k → F k ∨ (w.heap.size ≤ k ∧ k < w1.heap.size)) := by
      intro k hk
      rcases hf1 k hk with h1 | h1
      · exact Or.inl h1
      · right; have := HU0.out.size; omega
    clear hr1 hu1 hf1 hn
    go_wp2_with fail
    refine (request_any HR1 g2).mono ?_
    rintro e w2 ⟨rfl, hu2⟩
    have HE : Hid (ReadStep F w (w2.alloc (.cells (reqCells (σ.read b).req) 103)) r (σ.read b) (.returned (.tuple #[restingV, .pointer (some ⟨w2.heap.size, 0, none⟩)]))) := by
      have hU2 := hu2.alloc (.cells (reqCells (σ.read b).req) 103)
      have hsz := hU2.size
      have hsz1 := HU1.out.size
      have hsz2 := hu2.size
      refine ⟨F1, HR1.out.keep hU2 (fun _ _ h => h), HU1.out.trans (hU2.mono (fun _ _ h => h.elim)), fun k hk => ?_, Or.inr ⟨HT.out, _, rfl, by rw [hpush]; simp, by omega, by simp⟩⟩
      rcases HF1.out k hk with h1 | h1
      · exact Or.inl h1
      · right; omega
    clear hu2 d0
    unfold reqCells at *
    go_wp2
    go_ret2
    exact HE.out

end Go.Proofs.YtohoddhegkjehaaGreatDoor
