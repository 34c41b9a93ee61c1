import Derived.Test.YtohoddhegkjehaaGreatDoorD3
/-
  The server's answers: get, put, remove.
-/
namespace Go.Proofs.YtohoddhegkjehaaGreatDoor
open Go.RowKit Go.MapKept

/-- An answer. -/
structure Ans where
  status : List UInt8
  length : Nat
  text : List UInt8
  last : Bool
def ansV (a : Ans) : Value := .agg #[.string ⟨a.status.toArray⟩, .int .i64 a.length, .string ⟨a.text.toArray⟩, .bool a.last]

def st200 : List UInt8 := [50, 48, 48, 32, 79, 75]
def st201 : List UInt8 := [50, 48, 49, 32, 67, 114, 101, 97, 116, 101, 100]
def st204 : List UInt8 := [50, 48, 52, 32, 78, 111, 32, 67, 111, 110, 116, 101, 110, 116]
def st400 : List UInt8 := [52, 48, 48, 32, 66, 97, 100, 32, 82, 101, 113, 117, 101, 115, 116]
def st404 : List UInt8 := [52, 48, 52, 32, 78, 111, 116, 32, 70, 111, 117, 110, 100]
def st405 : List UInt8 := [52, 48, 53, 32, 77, 101, 116, 104, 111, 100, 32, 78, 111, 116, 32, 65, 108, 108, 111, 119, 101, 100]
def st413 : List UInt8 := [52, 49, 51, 32, 67, 111, 110, 116, 101, 110, 116, 32, 84, 111, 111, 32, 76, 97, 114, 103, 101]
def st431 : List UInt8 := [52, 51, 49, 32, 82, 101, 113, 117, 101, 115, 116, 32, 72, 101, 97, 100, 101, 114, 32, 70, 105, 101, 108, 100, 115, 32, 84, 111, 111, 32, 76, 97, 114, 103, 101]
def st507 : List UInt8 := [53, 48, 55, 32, 73, 110, 115, 117, 102, 102, 105, 99, 105, 101, 110, 116, 32, 83, 116, 111, 114, 97, 103, 101]

/-- The server's block S: its connections' map cm, its store s, m. -/
structure SrvT (w : World) (S s m cm made : Nat) (dr : Bool) (L : Texts) (u : Int) : Prop where
  blk : w.heap[S]? = some (.cells #[.map (some cm), .int .i64 made, .bool dr, .pointer (some ⟨s, 0, none⟩)] 50 (0, 0))
  sto : Sto w s m L u

theorem SrvT.keep {M : Nat → Prop} {w w' : World} {S s m cm made : Nat} {dr : Bool} {L : Texts} {u : Int} (h : SrvT w S s m cm made dr L u) (hu : Upd M w w') (h0 : ¬ M S) (h1 : ¬ M s) (h2 : ¬ M m) : SrvT w' S s m cm made dr L u := ⟨hu.keep h.blk h0, h.sto.keep hu h1 h2⟩

def getAns (L : Texts) (t : List UInt8) : Ans := match aget L t with | some x => ⟨st200, x.length, x, false⟩ | none => ⟨st404, 0, [], false⟩

/-- A new block of an answer, behind a call. -/
theorem new4 {M : Nat → Prop} {w w1 : World} {a b c d : Value} {t : TypeId} (hu : Upd M (w.alloc (.cells #[a, b, c, d] t)) w1) (hM : ¬ M w.heap.size) : w1.heap[w.heap.size]? = some (.cells #[a, b, c, d] t (0, 0)) :=
  hu.keep (by rw [hpush]; simp) hM

abbrev zero4 : Obj := .cells #[.string ⟨#[]⟩, .int .i64 0, .string ⟨#[]⟩, .bool false] 99

theorem cells4 {w1 : World} {b : Nat} {v0 v1 v2 v3 : Value} {t : TypeId} (h : w1.heap[b]? = some (.cells #[v0, v1, v2, v3] t (0, 0))) :
    w1.cell? ⟨b, 0, none⟩ = some v0 ∧ w1.cell? ⟨b, 1, none⟩ = some v1 ∧ w1.cell? ⟨b, 2, none⟩ = some v2 ∧ w1.cell? ⟨b, 3, none⟩ = some v3 ∧ w1.frozen? ⟨b, 0, none⟩ = false ∧ w1.frozen? ⟨b, 1, none⟩ = false ∧ w1.frozen? ⟨b, 2, none⟩ = false ∧ w1.frozen? ⟨b, 3, none⟩ = false :=
  ⟨cell_of_heap h 0, cell_of_heap h 1, cell_of_heap h 2, cell_of_heap h 3, unfrozen_of_heap h 0, unfrozen_of_heap h 1, unfrozen_of_heap h 2, unfrozen_of_heap h 3⟩

/-- Four stores into a block beyond. -/
theorem Upd.four {M : Nat → Prop} {w w1 : World} (hu : Upd M w w1) (b : Nat) (hb : w.heap.size ≤ b) (v0 v1 v2 v3 : Value) : Upd M w ((((w1.setCell ⟨b, 0, none⟩ v0).setCell ⟨b, 1, none⟩ v1).setCell ⟨b, 2, none⟩ v2).setCell ⟨b, 3, none⟩ v3) :=
  (((hu.setCell (p := ⟨b, 0, none⟩) (fun h => absurd h (by show ¬ b < _; omega)) _).setCell (p := ⟨b, 1, none⟩) (fun h => absurd h (by show ¬ b < _; omega)) _).setCell (p := ⟨b, 2, none⟩) (fun h => absurd h (by show ¬ b < _; omega)) _).setCell (p := ⟨b, 3, none⟩) (fun h => absurd h (by show ¬ b < _; omega)) _

set_option maxHeartbeats 400000 in
theorem sget_any {w : World} {S s m cm made : Nat} {dr : Bool} {L : Texts} {u : Int} (h : Hid (SrvT w S s m cm made dr L u)) (t : List UInt8) (hL : ∀ p ∈ L, p.2.length ≤ 100) :
    Calls Tryz.prog 64 #[.pointer (some ⟨S, 0, none⟩), .string ⟨t.toArray⟩] w fun e w' => e = .returned (ansV (getAns L t)) ∧ Upd (fun _ => False) w w' := by
  have hU0 : Upd (fun _ => False) w (w.alloc zero4) := (Upd.refl _ w).alloc _
  have c3 : (w.alloc zero4).cell? ⟨S, 3, none⟩ = some (.pointer (some ⟨s, 0, none⟩)) := cell_of_heap (hU0.keep h.out.blk (fun h => h)) 3
  have HG : Hid (Calls Tryz.prog 68 #[.pointer (some ⟨s, 0, none⟩), .string ⟨t.toArray⟩] (w.alloc zero4) fun e w' => e = .returned (.tuple #[.string ⟨((aget L t).getD []).toArray⟩, .bool (aget L t).isSome]) ∧ Upd (fun _ => False) (w.alloc zero4) w') := get_any (h.out.sto.keep hU0 (fun h => h) (fun h => h)) t
  have HU0 : Hid (Upd (fun _ => False) w (w.alloc zero4)) := hU0
  clear hU0
  cases hg : aget L t with
  | none =>
    have HA : Hid (getAns L t = ⟨st404, 0, [], false⟩) := by show _ = _; unfold getAns; rw [hg]
    rw [hg] at HG
    simp only [Option.isSome_none, Option.getD_none] at HG
    clear hg hL
    go_enter Tryz.func64, Tryz.ntmps64
    go_wp2_with fail
    refine HG.out.mono ?_
    rintro e w1 ⟨rfl, hu⟩
    obtain ⟨d0, d1, d2, d3, g0, g1, g2, g3⟩ := cells4 (new4 hu (fun h => h))
    have HU : Hid (Upd (fun _ => False) w w1) := HU0.out.trans hu
    clear hu
    go_wp2
    rw [HA.out]
    exact bodyPost_ret (v := ansV ⟨st404, 0, [], false⟩) (by simp [results, Tryz.results64, go_sem, d0, d1, d2, d3, ansV, st404]) rfl ⟨rfl, HU.out.four _ (Nat.le_refl _) _ _ _ _⟩
  | some x =>
    have HA : Hid (getAns L t = ⟨st200, x.length, x, false⟩) := by show _ = _; unfold getAns; rw [hg]
    have hx : x.length ≤ 100 := by
      unfold aget at hg
      obtain ⟨p, hp, rfl⟩ := Option.map_eq_some_iff.1 hg
      exact hL p (List.mem_of_getElem? hp)
    rw [hg] at HG
    simp only [Option.isSome_some, Option.getD_some] at HG
    clear hg hL
    go_enter Tryz.func64, Tryz.ntmps64
    go_wp2_with fail
    refine HG.out.mono ?_
    rintro e w1 ⟨rfl, hu⟩
    obtain ⟨d0, d1, d2, d3, g0, g1, g2, g3⟩ := cells4 (new4 hu (fun h => h))
    have HU : Hid (Upd (fun _ => False) w w1) := HU0.out.trans hu
    clear hu
    go_wp2
    rw [HA.out]
    exact bodyPost_ret (v := ansV ⟨st200, x.length, x, false⟩) (by simp [results, Tryz.results64, go_sem, d0, d1, d2, d3, ansV, st200]) rfl ⟨rfl, HU.out.four _ (Nat.le_refl _) _ _ _ _⟩

end Go.Proofs.YtohoddhegkjehaaGreatDoor
