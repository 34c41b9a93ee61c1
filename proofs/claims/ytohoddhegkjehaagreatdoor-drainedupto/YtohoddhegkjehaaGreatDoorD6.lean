import Derived.Test.YtohoddhegkjehaaGreatDoorD5
/-
  The server's answers: serve, faultStatus, reply.
-/
namespace Go.Proofs.YtohoddhegkjehaaGreatDoor
open Go.RowKit Go.MapKept

/-- What a request asks. -/
structure Req where
  fault : Nat
  method : List UInt8
  target : List UInt8
  body : List UInt8
  close : Bool
def reqCells (q : Req) : Array Value := #[.int .i64 q.fault, .string ⟨q.method.toArray⟩, .string ⟨q.target.toArray⟩, .string ⟨q.body.toArray⟩, .bool q.close]

def mGet : List UInt8 := [71, 69, 84]
def mHead : List UInt8 := [72, 69, 65, 68]
def mPut : List UInt8 := [80, 85, 84]
def mDel : List UInt8 := [68, 69, 76, 69, 84, 69]

/-- The server's texts and how many bytes it says it keeps; what it answers. -/
def serveAns (L : Texts) (u : Int) (q : Req) : Ans :=
  if q.method = mGet then getAns L q.target
  else if q.method = mHead then { getAns L q.target with text := [] }
  else if q.method = mPut then putAns L u q.target q.body
  else if q.method = mDel then delAns L q.target
  else ⟨st405, 0, [], false⟩
def serveL (L : Texts) (u : Int) (q : Req) : Texts :=
  if q.method = mGet then L else if q.method = mHead then L else if q.method = mPut then putL L u q.target q.body else if q.method = mDel then adel L q.target else L
def serveU (L : Texts) (u : Int) (q : Req) : Int :=
  if q.method = mGet then u else if q.method = mHead then u else if q.method = mPut then putU L u q.target q.body else if q.method = mDel then u - takenOf L q.target else u

set_option maxHeartbeats 800000 in
theorem serve_any {w : World} {S s m cm made : Nat} {dr : Bool} {L : Texts} {u : Int} (h : Hid (SrvT w S s m cm made dr L u)) (q : Req) (ht : q.target.length ≤ 1000) (hx : q.body.length ≤ 100) (hL : Hid (∀ p ∈ L, p.2.length ≤ 100)) (hu0 : -100000 ≤ u) (hu1 : u ≤ 100000) :
    Calls Tryz.prog 62 #[.pointer (some ⟨S, 0, none⟩), .agg (reqCells q)] w fun e w' => e = .returned (ansV (serveAns L u q)) ∧ Upd (fun k => k = s ∨ k = m) w w' ∧ SrvT w' S s m cm made dr (serveL L u q) (serveU L u q) := by
  have hU0 : Upd (fun _ => False) w ((w.alloc (.cells (reqCells q) 103)).alloc zero4) := ((Upd.refl _ w).alloc _).alloc _
  have HS0 : Hid (SrvT ((w.alloc (.cells (reqCells q) 103)).alloc zero4) S s m cm made dr L u) := h.out.keep hU0 (fun h => h) (fun h => h) (fun h => h)
  have HU0 : Hid (Upd (fun _ => False) w ((w.alloc (.cells (reqCells q) 103)).alloc zero4)) := hU0
  have hSl := lt_of_heap h.out.blk
  obtain ⟨ls, lm⟩ := h.out.sto.ne4
  obtain ⟨nS, nm⟩ := h.out.ne
  clear hU0
  unfold reqCells at *
  by_cases hg : q.method = mGet
  · have HA : Hid (serveAns L u q = getAns L q.target ∧ serveL L u q = L ∧ serveU L u q = u) := by
      show _ ∧ _ ∧ _
      unfold serveAns serveL serveU; rw [if_pos hg, if_pos hg, if_pos hg]; exact ⟨rfl, rfl, rfl⟩
    rw [HA.out.1, HA.out.2.1, HA.out.2.2]
    have e1 : (q.method == [71, 69, 84]) = true := by rw [hg]; decide
    have HG := Calls.mono (sget_any HS0 q.target hL.out) (fun e w' h => (show Hid (e = .returned (ansV (getAns L q.target)) ∧ Upd (fun _ => False) ((w.alloc (.cells #[.int .i64 q.fault, .string ⟨q.method.toArray⟩, .string ⟨q.target.toArray⟩, .string ⟨q.body.toArray⟩, .bool q.close] 103)).alloc zero4) w') from h))
    have HC : Hid (Calls _ _ _ _ _) := HG
    clear hg HG HA
    generalize getAns L q.target = a at HC ⊢
    go_enter Tryz.func62, Tryz.ntmps62
    go_wp2_with fail
    refine HC.out.mono ?_
    intro e w1 hh
    obtain ⟨rfl, hu⟩ := hh.out
    clear hh
    have hn : w1.heap[w.heap.size + 1]? = some zero4 := hu.keep (by simp only [hpush, Array.getElem?_push, Array.size_push]; repeat (first | rw [if_pos trivial] | rw [if_pos (by omega)] | rw [if_neg (by omega)])) (fun h => h)
    obtain ⟨d0, d1, d2, d3, g0, g1, g2, g3⟩ := cells4 hn
    have HU : Hid (Upd (fun k => k = s ∨ k = m) w w1) := (HU0.out.trans hu).mono (fun _ _ h => h.elim)
    have HS : Hid (SrvT w1 S s m cm made dr L u) := HS0.out.keep hu (fun h => h) (fun h => h) (fun h => h)
    clear hu hn
    unfold ansV
    go_wp2
    exact bodyPost_ret (v := ansV a) (by simp [results, Tryz.results62, go_sem, d0, d1, d2, d3, ansV]) rfl ⟨rfl, HU.out.four _ (by omega) _ _ _ _, HS.out.four _ (by omega) (by omega) (by omega) _ _ _ _⟩
  have e1 : (q.method == [71, 69, 84]) = false := beq_eq_false_iff_ne.2 hg
  by_cases hh : q.method = mHead
  · have HA : Hid (serveAns L u q = { getAns L q.target with text := [] } ∧ serveL L u q = L ∧ serveU L u q = u) := by
      show _ ∧ _ ∧ _
      unfold serveAns serveL serveU; rw [if_neg hg, if_neg hg, if_neg hg, if_pos hh, if_pos hh, if_pos hh]; exact ⟨rfl, rfl, rfl⟩
    rw [HA.out.1, HA.out.2.1, HA.out.2.2]
    have e2 : (q.method == [72, 69, 65, 68]) = true := by rw [hh]; decide
    have HG := Calls.mono (sget_any HS0 q.target hL.out) (fun e w' h => (show Hid (e = .returned (ansV (getAns L q.target)) ∧ Upd (fun _ => False) ((w.alloc (.cells #[.int .i64 q.fault, .string ⟨q.method.toArray⟩, .string ⟨q.target.toArray⟩, .string ⟨q.body.toArray⟩, .bool q.close] 103)).alloc zero4) w') from h))
    have HC : Hid (Calls _ _ _ _ _) := HG
    clear hg hh HG HA
    generalize getAns L q.target = a at HC ⊢
    go_enter Tryz.func62, Tryz.ntmps62
    go_wp2_with fail
    refine HC.out.mono ?_
    intro e w1 hh
    obtain ⟨rfl, hu⟩ := hh.out
    clear hh
    have hn : w1.heap[w.heap.size + 1]? = some zero4 := hu.keep (by simp only [hpush, Array.getElem?_push, Array.size_push]; repeat (first | rw [if_pos trivial] | rw [if_pos (by omega)] | rw [if_neg (by omega)])) (fun h => h)
    obtain ⟨d0, d1, d2, d3, g0, g1, g2, g3⟩ := cells4 hn
    have hlt := lt_of_heap hn
    have HU : Hid (Upd (fun k => k = s ∨ k = m) w w1) := (HU0.out.trans hu).mono (fun _ _ h => h.elim)
    have HS : Hid (SrvT w1 S s m cm made dr L u) := HS0.out.keep hu (fun h => h) (fun h => h) (fun h => h)
    clear hu hn
    unfold ansV
    go_wp2
    refine bodyPost_ret (v := ansV { a with text := [] }) (by simp [results, Tryz.results62, go_sem, d0, d1, d2, d3, ansV, hlt]) rfl ⟨rfl, ?_, ?_⟩
    · exact (HU.out.four _ (by omega) _ _ _ _).alloc _
    · exact (HS.out.four _ (by omega) (by omega) (by omega) _ _ _ _).keep ((Upd.refl (fun _ => False) _).alloc _) (fun h => h) (fun h => h) (fun h => h)
  have e2 : (q.method == [72, 69, 65, 68]) = false := beq_eq_false_iff_ne.2 hh
  by_cases hp : q.method = mPut
  · have HA : Hid (serveAns L u q = putAns L u q.target q.body ∧ serveL L u q = putL L u q.target q.body ∧ serveU L u q = putU L u q.target q.body) := by
      show _ ∧ _ ∧ _
      unfold serveAns serveL serveU; rw [if_neg hg, if_neg hg, if_neg hg, if_neg hh, if_neg hh, if_neg hh, if_pos hp, if_pos hp, if_pos hp]; exact ⟨rfl, rfl, rfl⟩
    rw [HA.out.1, HA.out.2.1, HA.out.2.2]
    have e3 : (q.method == [80, 85, 84]) = true := by rw [hp]; decide
    have HG := Calls.mono (sput_any HS0 q.target q.body ht hx hL hu0 hu1) (fun e w' h => (show Hid (e = .returned (ansV (putAns L u q.target q.body)) ∧ Upd (fun k => k = s ∨ k = m) ((w.alloc (.cells #[.int .i64 q.fault, .string ⟨q.method.toArray⟩, .string ⟨q.target.toArray⟩, .string ⟨q.body.toArray⟩, .bool q.close] 103)).alloc zero4) w' ∧ SrvT w' S s m cm made dr (putL L u q.target q.body) (putU L u q.target q.body)) from h))
    have HC : Hid (Calls _ _ _ _ _) := HG
    clear hg hh hp HG HA
    generalize putAns L u q.target q.body = a at HC ⊢
    generalize putL L u q.target q.body = L' at HC ⊢
    generalize putU L u q.target q.body = u' at HC ⊢
    go_enter Tryz.func62, Tryz.ntmps62
    go_wp2_with fail
    refine HC.out.mono ?_
    intro e w1 hh
    obtain ⟨rfl, hu, hs⟩ := hh.out
    clear hh
    have hn : w1.heap[w.heap.size + 1]? = some zero4 := hu.keep (by simp only [hpush, Array.getElem?_push, Array.size_push]; repeat (first | rw [if_pos trivial] | rw [if_pos (by omega)] | rw [if_neg (by omega)])) (by omega)
    obtain ⟨d0, d1, d2, d3, g0, g1, g2, g3⟩ := cells4 hn
    have HU : Hid (Upd (fun k => k = s ∨ k = m) w w1) := (HU0.out.mono (fun _ _ h => h.elim)).trans hu
    have HS : Hid (SrvT w1 S s m cm made dr L' u') := hs
    clear hu hn hs
    unfold ansV
    go_wp2
    exact bodyPost_ret (v := ansV a) (by simp [results, Tryz.results62, go_sem, d0, d1, d2, d3, ansV]) rfl ⟨rfl, HU.out.four _ (by omega) _ _ _ _, HS.out.four _ (by omega) (by omega) (by omega) _ _ _ _⟩
  have e3 : (q.method == [80, 85, 84]) = false := beq_eq_false_iff_ne.2 hp
  by_cases hd : q.method = mDel
  · have HA : Hid (serveAns L u q = delAns L q.target ∧ serveL L u q = adel L q.target ∧ serveU L u q = u - takenOf L q.target) := by
      show _ ∧ _ ∧ _
      unfold serveAns serveL serveU; rw [if_neg hg, if_neg hg, if_neg hg, if_neg hh, if_neg hh, if_neg hh, if_neg hp, if_neg hp, if_neg hp, if_pos hd, if_pos hd, if_pos hd]; exact ⟨rfl, rfl, rfl⟩
    rw [HA.out.1, HA.out.2.1, HA.out.2.2]
    have e4 : (q.method == [68, 69, 76, 69, 84, 69]) = true := by rw [hd]; decide
    have HG := Calls.mono (sdel_any HS0 q.target ht hL hu0 hu1) (fun e w' h => (show Hid (e = .returned (ansV (delAns L q.target)) ∧ Upd (fun k => k = s ∨ k = m) ((w.alloc (.cells #[.int .i64 q.fault, .string ⟨q.method.toArray⟩, .string ⟨q.target.toArray⟩, .string ⟨q.body.toArray⟩, .bool q.close] 103)).alloc zero4) w' ∧ SrvT w' S s m cm made dr (adel L q.target) (u - takenOf L q.target)) from h))
    have HC : Hid (Calls _ _ _ _ _) := HG
    clear hg hh hp hd HG HA
    generalize delAns L q.target = a at HC ⊢
    generalize adel L q.target = L' at HC ⊢
    generalize u - takenOf L q.target = u' at HC ⊢
    go_enter Tryz.func62, Tryz.ntmps62
    go_wp2_with fail
    refine HC.out.mono ?_
    intro e w1 hh
    obtain ⟨rfl, hu, hs⟩ := hh.out
    clear hh
    have hn : w1.heap[w.heap.size + 1]? = some zero4 := hu.keep (by simp only [hpush, Array.getElem?_push, Array.size_push]; repeat (first | rw [if_pos trivial] | rw [if_pos (by omega)] | rw [if_neg (by omega)])) (by omega)
    obtain ⟨d0, d1, d2, d3, g0, g1, g2, g3⟩ := cells4 hn
    have HU : Hid (Upd (fun k => k = s ∨ k = m) w w1) := (HU0.out.mono (fun _ _ h => h.elim)).trans hu
    have HS : Hid (SrvT w1 S s m cm made dr L' u') := hs
    clear hu hn hs
    unfold ansV
    go_wp2
    exact bodyPost_ret (v := ansV a) (by simp [results, Tryz.results62, go_sem, d0, d1, d2, d3, ansV]) rfl ⟨rfl, HU.out.four _ (by omega) _ _ _ _, HS.out.four _ (by omega) (by omega) (by omega) _ _ _ _⟩
  · have HA : Hid (serveAns L u q = ⟨st405, 0, [], false⟩ ∧ serveL L u q = L ∧ serveU L u q = u) := by
      show _ ∧ _ ∧ _
      unfold serveAns serveL serveU; rw [if_neg hg, if_neg hg, if_neg hg, if_neg hh, if_neg hh, if_neg hh, if_neg hp, if_neg hp, if_neg hp, if_neg hd, if_neg hd, if_neg hd]; exact ⟨rfl, rfl, rfl⟩
    rw [HA.out.1, HA.out.2.1, HA.out.2.2]
    have e4 : (q.method == [68, 69, 76, 69, 84, 69]) = false := beq_eq_false_iff_ne.2 hd
    clear hg hh hp hd HA
    go_enter Tryz.func62, Tryz.ntmps62
    go_wp2
    refine bodyPost_ret (v := ansV ⟨st405, 0, [], false⟩) (by simp [results, Tryz.results62, go_sem, ansV, st405]) rfl ⟨rfl, ((Upd.refl _ _).alloc _).alloc _, ?_⟩
    exact h.out.keep (((Upd.refl (fun _ => False) _).alloc _).alloc _) (fun h => h) (fun h => h) (fun h => h)

end Go.Proofs.YtohoddhegkjehaaGreatDoor
