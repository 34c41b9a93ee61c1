import Derived.Test.YtohoddhegkjehaaGreatDoorD4
/-
  The server's answers: put, remove.
-/
namespace Go.Proofs.YtohoddhegkjehaaGreatDoor
open Go.RowKit Go.MapKept

def putL (L : Texts) (u : Int) (t x : List UInt8) : Texts := if usedWith L u t x ≤ 400 then aput L t x else L
def putU (L : Texts) (u : Int) (t x : List UInt8) : Int := if usedWith L u t x ≤ 400 then usedWith L u t x else u
def putAns (L : Texts) (u : Int) (t x : List UInt8) : Ans := if usedWith L u t x ≤ 400 then (if (aget L t).isSome then ⟨st204, 0, [], false⟩ else ⟨st201, 0, [], false⟩) else ⟨st507, 0, [], false⟩
def delAns (L : Texts) (t : List UInt8) : Ans := if (aget L t).isSome then ⟨st204, 0, [], false⟩ else ⟨st404, 0, [], false⟩

theorem Sto.ne4 {w : World} {s m : Nat} {L : Texts} {u : Int} (h : Sto w s m L u) : s < w.heap.size ∧ m < w.heap.size := by
  obtain ⟨es, clock, h3, _⟩ := h.map
  exact ⟨lt_of_heap h.blk, lt_of_heap h3⟩
theorem SrvT.ne {w : World} {S s m cm made : Nat} {dr : Bool} {L : Texts} {u : Int} (h : SrvT w S s m cm made dr L u) : S ≠ s ∧ S ≠ m := by
  constructor
  · intro e; have := h.sto.blk; rw [← e, h.blk] at this; simp at this
  · intro e
    obtain ⟨es, clock, h3, _⟩ := h.sto.map
    rw [← e, h.blk] at h3; simp at h3

theorem Upd.fourAt (w : World) (b : Nat) (v0 v1 v2 v3 : Value) : Upd (fun k => k = b) w ((((w.setCell ⟨b, 0, none⟩ v0).setCell ⟨b, 1, none⟩ v1).setCell ⟨b, 2, none⟩ v2).setCell ⟨b, 3, none⟩ v3) :=
  (((Upd.one _ _ _ _).trans (Upd.one _ _ _ _)).trans (Upd.one _ _ _ _)).trans (Upd.one _ _ _ _)
theorem SrvT.four {w : World} {S s m cm made : Nat} {dr : Bool} {L : Texts} {u : Int} (h : SrvT w S s m cm made dr L u) (b : Nat) (h0 : S ≠ b) (h1 : s ≠ b) (h2 : m ≠ b) (v0 v1 v2 v3 : Value) : SrvT ((((w.setCell ⟨b, 0, none⟩ v0).setCell ⟨b, 1, none⟩ v1).setCell ⟨b, 2, none⟩ v2).setCell ⟨b, 3, none⟩ v3) S s m cm made dr L u :=
  h.keep (Upd.fourAt w b v0 v1 v2 v3) h0 h1 h2

set_option maxHeartbeats 400000 in
theorem sput_any {w : World} {S s m cm made : Nat} {dr : Bool} {L : Texts} {u : Int} (h : Hid (SrvT w S s m cm made dr L u)) (t x : List UInt8) (ht : t.length ≤ 1000) (hx : x.length ≤ 100) (hL : Hid (∀ p ∈ L, p.2.length ≤ 100)) (hu0 : -100000 ≤ u) (hu1 : u ≤ 100000) :
    Calls Tryz.prog 65 #[.pointer (some ⟨S, 0, none⟩), .string ⟨t.toArray⟩, .string ⟨x.toArray⟩] w fun e w' => e = .returned (ansV (putAns L u t x)) ∧ Upd (fun k => k = s ∨ k = m) w w' ∧ SrvT w' S s m cm made dr (putL L u t x) (putU L u t x) := by
  have hU0 : Upd (fun _ => False) w (w.alloc zero4) := (Upd.refl _ w).alloc _
  have c3 : (w.alloc zero4).cell? ⟨S, 3, none⟩ = some (.pointer (some ⟨s, 0, none⟩)) := cell_of_heap (hU0.keep h.out.blk (fun h => h)) 3
  have HG : Hid (Calls Tryz.prog 68 #[.pointer (some ⟨s, 0, none⟩), .string ⟨t.toArray⟩] (w.alloc zero4) fun e w' => e = .returned (.tuple #[.string ⟨((aget L t).getD []).toArray⟩, .bool (aget L t).isSome]) ∧ Upd (fun _ => False) (w.alloc zero4) w') := get_any (h.out.sto.keep hU0 (fun h => h) (fun h => h)) t
  have HU0 : Hid (Upd (fun _ => False) w (w.alloc zero4)) := hU0
  have hSl := lt_of_heap h.out.blk
  obtain ⟨ls, lm⟩ := h.out.sto.ne4
  obtain ⟨nS, nm⟩ := h.out.ne
  clear hU0
  have HA : Hid (∃ a L' u' b1 b2, putAns L u t x = a ∧ putL L u t x = L' ∧ putU L u t x = u' ∧ (aget L t).isSome = b1 ∧ decide (usedWith L u t x ≤ 400) = b2 ∧ ((b2 = false ∧ a = ⟨st507, 0, [], false⟩) ∨ (b2 = true ∧ b1 = true ∧ a = ⟨st204, 0, [], false⟩) ∨ (b2 = true ∧ b1 = false ∧ a = ⟨st201, 0, [], false⟩)) ∧
      ∀ w', (usedWith L u t x ≤ 400 → Sto w' s m (aput L t x) (usedWith L u t x)) → (¬ usedWith L u t x ≤ 400 → Sto w' s m L u) → Sto w' s m L' u') := by
    refine ⟨_, _, _, _, _, rfl, rfl, rfl, rfl, rfl, ?_, ?_⟩
    · unfold putAns
      by_cases h4 : usedWith L u t x ≤ 400
      · cases hs : (aget L t).isSome <;> simp [h4]
      · simp [h4]
    · intro w' k1 k2
      unfold putL putU
      by_cases h4 : usedWith L u t x ≤ 400
      · rw [if_pos h4, if_pos h4]; exact k1 h4
      · rw [if_neg h4, if_neg h4]; exact k2 h4
  obtain ⟨a, L', u', b1, b2, e1, e2, e3, e4, e5, hc, hst⟩ := HA.out
  rw [e1, e2, e3]
  rw [e4] at HG
  have HP : Hid (∀ W, Upd (fun _ => False) w W → Calls Tryz.prog 69 #[.pointer (some ⟨s, 0, none⟩), .string ⟨t.toArray⟩, .string ⟨x.toArray⟩] W fun e w' => e = .returned (.bool b2) ∧ Upd (fun k => k = s ∨ k = m) W w' ∧ Sto w' s m L' u') := by
    intro W hW
    refine (put_any (h.out.sto.keep hW (fun h => h) (fun h => h)) t x ht (by omega) hL.out hu0 hu1).mono ?_
    rintro e w' ⟨rfl, k1, k2, k3⟩
    exact ⟨by rw [e5], k1, hst w' k2 k3⟩
  clear e1 e2 e3 e4 e5 hst HA
  generalize (aget L t).getD [] = y at HG
  rcases hc with ⟨rfl, rfl⟩ | ⟨rfl, rfl, rfl⟩ | ⟨rfl, rfl, rfl⟩
  all_goals
    go_enter Tryz.func65, Tryz.ntmps65
    go_wp2_with fail
    refine HG.out.mono ?_
    rintro e w1 ⟨rfl, hu⟩
    have k3 : w1.cell? ⟨S, 3, none⟩ = some (.pointer (some ⟨s, 0, none⟩)) := cell_of_heap ((HU0.out.trans hu).keep h.out.blk (fun h => h)) 3
    have HU1 : Hid (Upd (fun _ => False) w w1) := HU0.out.trans hu
    have HN : Hid (w1.heap[w.heap.size]? = some zero4) := new4 hu (fun h => h)
    clear hu
    go_wp2_with fail
    refine (HP.out w1 HU1.out).mono ?_
    rintro e w2 ⟨rfl, hu2, hs2⟩
    obtain ⟨d0, d1, d2, d3, g0, g1, g2, g3⟩ := cells4 (hu2.keep HN.out (by omega))
    have HU : Hid (Upd (fun k => k = s ∨ k = m) w w2) := (HU1.out.mono (fun _ _ h => h.elim)).trans hu2
    have HS : Hid (SrvT w2 S s m cm made dr L' u') := ⟨HU.out.keep h.out.blk (by omega), hs2⟩
    clear hu2 hs2
    go_wp2
    first
      | exact bodyPost_ret (v := ansV ⟨st507, 0, [], false⟩) (by simp [results, Tryz.results65, go_sem, d0, d1, d2, d3, ansV, st507]) rfl ⟨rfl, HU.out.four _ (Nat.le_refl _) _ _ _ _, HS.out.four _ (by omega) (by omega) (by omega) _ _ _ _⟩
      | exact bodyPost_ret (v := ansV ⟨st204, 0, [], false⟩) (by simp [results, Tryz.results65, go_sem, d0, d1, d2, d3, ansV, st204]) rfl ⟨rfl, HU.out.four _ (Nat.le_refl _) _ _ _ _, HS.out.four _ (by omega) (by omega) (by omega) _ _ _ _⟩
      | exact bodyPost_ret (v := ansV ⟨st201, 0, [], false⟩) (by simp [results, Tryz.results65, go_sem, d0, d1, d2, d3, ansV, st201]) rfl ⟨rfl, HU.out.four _ (Nat.le_refl _) _ _ _ _, HS.out.four _ (by omega) (by omega) (by omega) _ _ _ _⟩

set_option maxHeartbeats 400000 in
theorem sdel_any {w : World} {S s m cm made : Nat} {dr : Bool} {L : Texts} {u : Int} (h : Hid (SrvT w S s m cm made dr L u)) (t : List UInt8) (ht : t.length ≤ 1000) (hL : Hid (∀ p ∈ L, p.2.length ≤ 100)) (hu0 : -100000 ≤ u) (hu1 : u ≤ 100000) :
    Calls Tryz.prog 66 #[.pointer (some ⟨S, 0, none⟩), .string ⟨t.toArray⟩] w fun e w' => e = .returned (ansV (delAns L t)) ∧ Upd (fun k => k = s ∨ k = m) w w' ∧ SrvT w' S s m cm made dr (adel L t) (u - takenOf L t) := by
  have hU0 : Upd (fun _ => False) w (w.alloc zero4) := (Upd.refl _ w).alloc _
  have c3 : (w.alloc zero4).cell? ⟨S, 3, none⟩ = some (.pointer (some ⟨s, 0, none⟩)) := cell_of_heap (hU0.keep h.out.blk (fun h => h)) 3
  have HG : Hid (Calls Tryz.prog 70 #[.pointer (some ⟨s, 0, none⟩), .string ⟨t.toArray⟩] (w.alloc zero4) fun e w' => e = .returned (.bool (aget L t).isSome) ∧ Upd (fun k => k = s ∨ k = m) (w.alloc zero4) w' ∧ Sto w' s m (adel L t) (u - takenOf L t)) := delete_any (h.out.sto.keep hU0 (fun h => h) (fun h => h)) t ht hL.out hu0 hu1
  have HU0 : Hid (Upd (fun _ => False) w (w.alloc zero4)) := hU0
  have hSl := lt_of_heap h.out.blk
  obtain ⟨ls, lm⟩ := h.out.sto.ne4
  obtain ⟨nS, nm⟩ := h.out.ne
  clear hU0
  unfold delAns
  generalize takenOf L t = tk at HG ⊢
  cases hg : (aget L t).isSome <;> rw [hg] at HG <;> clear hg
  all_goals
    go_enter Tryz.func66, Tryz.ntmps66
    go_wp2_with fail
    refine HG.out.mono ?_
    rintro e w2 ⟨rfl, hu2, hs2⟩
    obtain ⟨d0, d1, d2, d3, g0, g1, g2, g3⟩ := cells4 (new4 hu2 (by omega))
    have HU : Hid (Upd (fun k => k = s ∨ k = m) w w2) := (HU0.out.mono (fun _ _ h => h.elim)).trans hu2
    have HS : Hid (SrvT w2 S s m cm made dr (adel L t) (u - tk)) := ⟨HU.out.keep h.out.blk (by omega), hs2⟩
    clear hu2 hs2
    go_wp2
    first
      | exact bodyPost_ret (v := ansV ⟨st404, 0, [], false⟩) (by simp [results, Tryz.results66, go_sem, d0, d1, d2, d3, ansV, st404]) rfl ⟨rfl, HU.out.four _ (Nat.le_refl _) _ _ _ _, HS.out.four _ (by omega) (by omega) (by omega) _ _ _ _⟩
      | exact bodyPost_ret (v := ansV ⟨st204, 0, [], false⟩) (by simp [results, Tryz.results66, go_sem, d0, d1, d2, d3, ansV, st204]) rfl ⟨rfl, HU.out.four _ (Nat.le_refl _) _ _ _ _, HS.out.four _ (by omega) (by omega) (by omega) _ _ _ _⟩

end Go.Proofs.YtohoddhegkjehaaGreatDoor
