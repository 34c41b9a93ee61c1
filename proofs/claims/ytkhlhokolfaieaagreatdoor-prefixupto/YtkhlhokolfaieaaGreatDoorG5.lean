import Derived.Test.YtkhlhokolfaieaaGreatDoorG4
import Derived.Shelf.SlicesE.Delete
import Derived.Ground.SlgnProg
import Derived.Lib.RowBridge
/-
  slices.Delete at the front of a row of our own.
-/
namespace Go.Proofs.YtkhlhokolfaieaaGreatDoor
open Go.RowKit Go.MapKept

def encB (b : UInt8) : Value := byteV b
theorem encB_one : OneCell encB := fun _ => rfl

set_option maxHeartbeats 400000 in
set_option maxRecDepth 100000 in
theorem delete_none (w : World) (v : Value) (bs : List UInt8) (h : Row w v bs) :
    Calls Tryz.prog 49 #[v, .int .i64 0, .int .i64 0] w fun e w' => e = .returned v ∧ w' = w := by
  rcases h.form with ⟨rfl, _⟩ | ⟨g, cap, rfl⟩
  · clear h
    go_enter Tryz.func49, Tryz.ntmps49
    go_wp2
    all_goals (go_ret; exact ⟨rfl, rfl⟩)
  · have hc : bs.length ≤ cap := by
      rcases h.2 with ⟨h1, _⟩ | ⟨g', cap', cur, hv, _, hh, hnc, hcm, hcs, htake⟩
      · simp at h1
      · simp at hv; omega
    clear h
    go_enter Tryz.func49, Tryz.ntmps49
    go_wp2
    all_goals (go_ret; exact ⟨rfl, rfl⟩)

/-- The first n elements are dropped. -/
theorem delete_front (w : World) (v : Value) (bs : List UInt8) (h : Row w v bs) (n : Nat) (hn : n ≤ bs.length) :
    Calls Tryz.prog 49 #[v, .int .i64 0, .int .i64 n] w fun e w' => ∃ v', e = .returned v' ∧ Row w' v' (bs.drop n) ∧ Upd (fun k => v.ownBlock = some k) w w' ∧ v'.ownBlock = v.ownBlock := by
  by_cases h0 : n = 0
  · subst h0
    refine (delete_none w v bs h).mono ?_
    rintro e w' ⟨rfl, rfl⟩
    exact ⟨v, rfl, by simpa using h, Upd.refl _ _, rfl⟩
  · rcases h.2 with ⟨_, h1⟩ | ⟨g, cap, cur, rfl, _, hh, hnc, hcm, hcs, htake⟩
    · omega
    · have hcells := World.ownsRow.cells h (g := g) rfl
      have hH : Sort.Holds encB w g 0 bs.toArray := by
        intro j hj
        have hj' : j < bs.length := by simpa using hj
        refine ⟨?_, unfrozen_of_heap hh _⟩
        rw [Nat.zero_add]
        have := hcells j (byteV bs[j]) (by simp [hj'])
        have e : (⟨g, 0, none⟩ : Addr).add j = ⟨g, j, none⟩ := by simp [Addr.add]; intro h; exact h.symm
        rw [e] at this
        rw [this]
        simp [encB, hj']
      have := AnyE.slices_Delete Tryz.layDel encB encB_one 0 (fun w => by kernel_rfl) (info_parts Tryz.info5).choose (info_parts Tryz.info5).choose_spec.1 (info_parts Tryz.info5).choose_spec.2.2.1 g 0 cap 0 n bs.toArray w hH (by simpa using hnc) (by unfold maxLen at hcm; omega) (by omega) (by simpa using hn)
      simp only [List.size_toArray, List.take_zero, List.nil_append, Nat.sub_zero] at this
      refine Calls.mono (show Calls Tryz.prog 49 _ _ _ from this) ?_
      rintro e w' ⟨rfl, q, rfl⟩
      have hlen : (bs.drop n ++ List.replicate n (0 : UInt8)).length = bs.length := by simp; omega
      rw [Lib.putRow_eq_setCells encB w g 0 bs.toArray _ q hH (by simpa using hlen)]
      have hh' : (w.drewN q).heap[g]? = some (.cells cur 5 (0, 0)) := hh
      obtain ⟨cur', k1, k2, k3, k4⟩ := setCells_row g 5 (0, 0) ((bs.drop n ++ List.replicate n (0 : UInt8)).map encB) 0 (w.drewN q) cur hh' (by rw [List.length_map, hlen]; omega)
      refine ⟨_, rfl, ⟨by simp, Or.inr ⟨g, cap, cur', by simp, Nat.zero_le _, k1, by simp; omega, hcm, by rw [k2, hcs], ?_⟩⟩, ((Upd.refl _ w).drewN q).trans (k4.mono (by rintro k _ rfl; rfl)), rfl⟩
      rw [List.length_map, hlen, Nat.zero_add, List.take_zero, List.nil_append, List.map_append] at k3
      have hd : (bs.drop n).length * 1 ≤ bs.length := by simp
      have e1 : cur'.toList.take ((bs.drop n).length * 1) = (cur'.toList.take bs.length).take ((bs.drop n).length * 1) := by rw [List.take_take, Nat.min_eq_left hd]
      rw [e1, k3, Nat.mul_one]
      have e2 : (bs.drop n).length = ((bs.drop n).map encB).length := by simp
      rw [e2, List.take_left]
      rfl

end Go.Proofs.YtkhlhokolfaieaaGreatDoor
