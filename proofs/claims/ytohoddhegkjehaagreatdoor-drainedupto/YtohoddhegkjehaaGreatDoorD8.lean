import Derived.Test.YtohoddhegkjehaaGreatDoorD7
/-
  Request, NewReader.
-/
namespace Go.Proofs.YtohoddhegkjehaaGreatDoor
open Go.RowKit Go.MapKept

/-- What a reader that is over has read. -/
def RS.req (σ : RS) : Req := ⟨σ.fault, σ.method, 47 :: σ.path, σ.body, σ.close⟩

abbrev zero5 : Obj := .cells #[.int .i64 0, .string ⟨#[]⟩, .string ⟨#[]⟩, .string ⟨#[]⟩, .bool false] 103

set_option maxHeartbeats 1000000 in
set_option maxRecDepth 100000 in
theorem request_any {F : Nat → Prop} {w : World} {r : Nat} {σ : RS} (h : Hid (Rd F w r σ)) (g : Hid (Good σ)) :
    Calls Tryz.prog 106 #[.pointer (some ⟨r, 0, none⟩)] w fun e w' => e = .returned (.agg (reqCells σ.req)) ∧ Upd (fun _ => False) w w' := by
  obtain ⟨sv, ⟨R, hB⟩, hC⟩ := h.out
  have hU0 : Upd (fun _ => False) w (w.alloc zero5) := (Upd.refl _ w).alloc _
  have hB0 := hB.keep hU0 (fun _ _ h => h)
  have hz : (w.alloc zero5).heap[w.heap.size]? = some zero5 := by rw [hpush]; simp
  have hsz : w.heap.size < (w.alloc zero5).heap.size := by simp
  have hne : w.heap.size ≠ r := by have := lt_of_heap hB.blk; omega
  have l4 : σ.method.length ≤ 200 := g.out.size 4 (by simp [IsRow])
  have l5 : σ.path.length ≤ 200 := g.out.size 5 (by simp [IsRow])
  have l12 : σ.body.length ≤ 200 := g.out.size 12 (by simp [IsRow])
  have HU0 : Hid (Upd (fun _ => False) w (w.alloc zero5)) := hU0
  clear hB hC hU0 h g
  have HP : Hid ((⟨#[47]⟩ ++ ⟨σ.path.toArray⟩ : ByteArray) = ⟨(47 :: σ.path).toArray⟩) := ba_app [47] σ.path
  have c3 : (w.alloc zero5).cell? ⟨r, 3, none⟩ = some (.int .i64 σ.fault) := hB0.cell 3
  have c4 : (w.alloc zero5).cell? ⟨r, 4, none⟩ = some (R 4) := hB0.cell 4
  have c5 : (w.alloc zero5).cell? ⟨r, 5, none⟩ = some (R 5) := hB0.cell 5
  have c8 : (w.alloc zero5).cell? ⟨r, 8, none⟩ = some (.bool σ.close) := hB0.cell 8
  have c12 : (w.alloc zero5).cell? ⟨r, 12, none⟩ = some (R 12) := hB0.cell 12
  have v4 := row_string' (hB0.row 4 (by simp [IsRow])) (Upd.refl _ (w.alloc zero5)).drew
  have v5 := row_string' (hB0.row 5 (by simp [IsRow])) (Upd.refl _ (w.alloc zero5)).drew
  have v12 := row_string' (hB0.row 12 (by simp [IsRow])) (Upd.refl _ (w.alloc zero5)).drew
  have z0 := cell_of_heap hz 0
  have z1 := cell_of_heap hz 1
  have z2 := cell_of_heap hz 2
  have z3 := cell_of_heap hz 3
  have z4 := cell_of_heap hz 4
  have y0 := unfrozen_of_heap hz 0
  have y1 := unfrozen_of_heap hz 1
  have y2 := unfrozen_of_heap hz 2
  have y3 := unfrozen_of_heap hz 3
  have y4 := unfrozen_of_heap hz 4
  simp only [List.getElem?_toArray, List.getElem?_cons_zero, List.getElem?_cons_succ] at z0 z1 z2 z3 z4
  unfold RS.get at v4 v5 v12
  simp only at v4 v5 v12
  clear hB0 hz
  generalize R 4 = x4 at *
  generalize R 5 = x5 at *
  generalize R 12 = x12 at *
  go_enter Tryz.func106, Tryz.ntmps106
  go_wp2
  generalize (w.alloc zero5) = W at *
  go_region
  all_goals
    go_wp2
    refine bodyPost_ret (v := .agg (reqCells σ.req)) (by simp [results, Tryz.results106, go_sem, reqCells, RS.req, z0, z1, z2, z3, z4, HP.out]) rfl ⟨rfl, ?_⟩
    exact ((HU0.out.four _ (Nat.le_refl _) _ _ _ _).setCell (p := ⟨w.heap.size, 4, none⟩) (fun h => absurd h (by show ¬ w.heap.size < w.heap.size; exact Nat.lt_irrefl _)) _).drew

end Go.Proofs.YtohoddhegkjehaaGreatDoor
