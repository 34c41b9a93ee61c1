import Derived.Test.YtiiapfkcmdkkoaaGreatDoorQ09
/-
  The server's answers: put, remove.
-/
namespace Go.Proofs.YtiiapfkcmdkkoaaGreatDoor
open Go.RowKit Go.MapKept

def putL (L : Texts) (u : Int) (t x : List UInt8) : Texts := if usedWith L u t x ≤ 400 then aput L t x else L
def putU (L : Texts) (u : Int) (t x : List UInt8) : Int := if usedWith L u t x ≤ 400 then usedWith L u t x else u
def putAns (L : Texts) (u : Int) (t x : List UInt8) : Ans := if usedWith L u t x ≤ 400 then (if (aget L t).isSome then ⟨st204, 0, [], false⟩ else ⟨st201, 0, [], false⟩) else ⟨st507, 0, [], false⟩
def delAns (L : Texts) (t : List UInt8) : Ans := if (aget L t).isSome then ⟨st204, 0, [], false⟩ else ⟨st404, 0, [], false⟩

theorem Sto.ne4 {w : World} {s m : Nat} {L : Texts} {u : Int} (h : Sto w s m L u) : s < w.heap.size ∧ m < w.heap.size := by
  obtain ⟨es, clock, h3, _⟩ := h.map
  exact ⟨lt_of_heap h.blk, lt_of_heap h3⟩
theorem SrvT.ne {w : World} {S s m cm wb made : Nat} {dr : Bool} {L : Texts} {u : Int} (h : SrvT w S s m cm wb made dr L u) : S ≠ s ∧ S ≠ m := by
  constructor
  · intro e; have := h.sto.blk; rw [← e, h.blk] at this; simp at this
  · intro e
    obtain ⟨es, clock, h3, _⟩ := h.sto.map
    rw [← e, h.blk] at h3; simp at h3

theorem Upd.fourAt (w : World) (b : Nat) (v0 v1 v2 v3 : Value) : Upd (fun k => k = b) w ((((w.setCell ⟨b, 0, none⟩ v0).setCell ⟨b, 1, none⟩ v1).setCell ⟨b, 2, none⟩ v2).setCell ⟨b, 3, none⟩ v3) :=
  (((Upd.one _ _ _ _).trans (Upd.one _ _ _ _)).trans (Upd.one _ _ _ _)).trans (Upd.one _ _ _ _)
theorem SrvT.four {w : World} {S s m cm wb made : Nat} {dr : Bool} {L : Texts} {u : Int} (h : SrvT w S s m cm wb made dr L u) (b : Nat) (h0 : S ≠ b) (h1 : s ≠ b) (h2 : m ≠ b) (v0 v1 v2 v3 : Value) : SrvT ((((w.setCell ⟨b, 0, none⟩ v0).setCell ⟨b, 1, none⟩ v1).setCell ⟨b, 2, none⟩ v2).setCell ⟨b, 3, none⟩ v3) S s m cm wb made dr L u :=
  h.keep (Upd.fourAt w b v0 v1 v2 v3) h0 h1 h2

set_option maxHeartbeats 400000 in
theorem sput_any {w : World} {S s m cm wb made : Nat} {dr : Bool} {L : Texts} {u : Int} (h : Hid (SrvT w S s m cm wb made dr L u)) (t x : List UInt8) (ht : t.length ≤ 1000) (hx : x.length ≤ 100) (hL : Hid (∀ p ∈ L, p.2.length ≤ 100)) (hu0 : -100000 ≤ u) (hu1 : u ≤ 100000) :
    Calls Tryz.prog 127 #[.pointer (some ⟨S, 0, none⟩), .string ⟨t.toArray⟩, .string ⟨x.toArray⟩] w fun e w' => e = .returned (ansV (putAns L u t x)) ∧ Upd (fun k => k = s ∨ k = m) w w' ∧ SrvT w' S s m cm wb made dr (putL L u t x) (putU L u t x) := by
  have hU0 : Upd (fun _ => False) w (w.alloc zero4) := (Upd.refl _ w).alloc _
  have c3 : (w.alloc zero4).cell? ⟨S, 3, none⟩ = some (.pointer (some ⟨s, 0, none⟩)) := cell_of_heap (hU0.keep h.out.blk (fun h => h)) 3
  have HG : Hid (Calls Tryz.prog 133 #[.pointer (some ⟨s, 0, none⟩), .string ⟨t.toArray⟩] (w.alloc zero4) fun e w' => e = .returned (.tuple #[.string ⟨((aget L t).getD []).toArray⟩, .bool (aget L t).isSome]) ∧ Upd (fun _ => False) (w.alloc zero4) w') := get_any (h.out.sto.keep hU0 (fun h => h) (fun h => h)) t
  have HU0 : Hid (Upd (fun _ => False) w (w.alloc zero4)) := hU0
  have hSl := lt_of_heap h.out.blk
  obtain ⟨ls, lm⟩ := h.out.sto.ne4
  obtain ⟨nS, nm⟩ := h.out.ne
  clear hU0
  have HA : Hid (∃ a L' u' b1 b2, putAns L u t x = a ∧ putL L u t x = L' ∧ putU L u t x = u' ∧ (aget L t).isSome = b1 ∧ decide (usedWith L u t x ≤ 400) = b2 ∧ ((b2 = false ∧ a = ⟨st507, 0, [], false⟩) ∨ (b2 = true ∧ b1 = true ∧ a = ⟨st204, 0, [], false⟩) ∨ (b2 = true ∧ b1 = false ∧ a = ⟨st201, 0, [], false⟩)) ∧
      ∀ w', (usedWith L u t x ≤ 400 → Sto w' s m (aput L t x) (usedWith L u t x)) → (¬ usedWith L u t x ≤ 400 → Sto w' s m L u) → Sto w' s m L' u') := by
    refine ⟨_, _, _, _, _, rfl, rfl, rfl, rfl, rfl, ?_, ?_⟩
    · unfold putAns
      by_cases h4 : usedWith L u t x ≤ 400
      · cases hs : (aget L t).isSome <;> simp [h4]
      · simp [h4]
    · intro w' k1 k2
      unfold putL putU
      by_cases h4 : usedWith L u t x ≤ 400
      · rw [if_pos h4, if_pos h4]; exact k1 h4
      · rw [if_neg h4, if_neg h4]; exact k2 h4
  obtain ⟨a, L', u', b1, b2, e1, e2, e3, e4, e5, hc, hst⟩ := HA.out
  rw [e1, e2, e3]
  rw [e4] at HG
  have HP : Hid (∀ W, Upd (fun _ => False) w W → Calls Tryz.prog 134 #[.pointer (some ⟨s, 0, none⟩), .string ⟨t.toArray⟩, .string ⟨x.toArray⟩] W fun e w' => e = .returned (.bool b2) ∧ Upd (fun k => k = s ∨ k = m) W w' ∧ Sto w' s m L' u') := by
    intro W hW
    refine (put_any (h.out.sto.keep hW (fun h => h) (fun h => h)) t x ht (by omega) hL.out hu0 hu1).mono ?_
    rintro e w' ⟨rfl, k1, k2, k3⟩
    exact ⟨by rw [e5], k1, hst w' k2 k3⟩
  clear e1 e2 e3 e4 e5 hst HA
  generalize (aget L t).getD [] = y at HG
  rcases hc with ⟨rfl, rfl⟩ | ⟨rfl, rfl, rfl⟩ | ⟨rfl, rfl, rfl⟩
  all_goals
    go_enter Tryz.func127, Tryz.ntmps127
    go_wp2_with fail
    refine HG.out.mono ?_
    rintro e w1 ⟨rfl, hu⟩
    have k3 : w1.cell? ⟨S, 3, none⟩ = some (.pointer (some ⟨s, 0, none⟩)) := cell_of_heap ((HU0.out.trans hu).keep h.out.blk (fun h => h)) 3
    have HU1 : Hid (Upd (fun _ => False) w w1) := HU0.out.trans hu
    have HN : Hid (w1.heap[w.heap.size]? = some zero4) := new4 hu (fun h => h)
    clear hu
    go_wp2_with fail
    refine (HP.out w1 HU1.out).mono ?_
    rintro e w2 ⟨rfl, hu2, hs2⟩
    obtain ⟨d0, d1, d2, d3, g0, g1, g2, g3⟩ := cells4 (hu2.keep HN.out (by omega))
    have HU : Hid (Upd (fun k => k = s ∨ k = m) w w2) := (HU1.out.mono (fun _ _ h => h.elim)).trans hu2
    have HS : Hid (SrvT w2 S s m cm wb made dr L' u') := ⟨HU.out.keep h.out.blk (by omega), hs2⟩
    clear hu2 hs2
    go_wp2
    first
      | exact bodyPost_ret (v := ansV ⟨st507, 0, [], false⟩) (by simp [results, Tryz.results127, go_sem, d0, d1, d2, d3, ansV, st507]) rfl ⟨rfl, HU.out.four _ (Nat.le_refl _) _ _ _ _, HS.out.four _ (by omega) (by omega) (by omega) _ _ _ _⟩
      | exact bodyPost_ret (v := ansV ⟨st204, 0, [], false⟩) (by simp [results, Tryz.results127, go_sem, d0, d1, d2, d3, ansV, st204]) rfl ⟨rfl, HU.out.four _ (Nat.le_refl _) _ _ _ _, HS.out.four _ (by omega) (by omega) (by omega) _ _ _ _⟩
      | exact bodyPost_ret (v := ansV ⟨st201, 0, [], false⟩) (by simp [results, Tryz.results127, go_sem, d0, d1, d2, d3, ansV, st201]) rfl ⟨rfl, HU.out.four _ (Nat.le_refl _) _ _ _ _, HS.out.four _ (by omega) (by omega) (by omega) _ _ _ _⟩

set_option maxHeartbeats 400000 in
theorem sdel_any {w : World} {S s m cm wb made : Nat} {dr : Bool} {L : Texts} {u : Int} (h : Hid (SrvT w S s m cm wb made dr L u)) (t : List UInt8) (ht : t.length ≤ 1000) (hL : Hid (∀ p ∈ L, p.2.length ≤ 100)) (hu0 : -100000 ≤ u) (hu1 : u ≤ 100000) :
    Calls Tryz.prog 128 #[.pointer (some ⟨S, 0, none⟩), .string ⟨t.toArray⟩] w fun e w' => e = .returned (ansV (delAns L t)) ∧ Upd (fun k => k = s ∨ k = m) w w' ∧ SrvT w' S s m cm wb made dr (adel L t) (u - takenOf L t) := by
  have hU0 : Upd (fun _ => False) w (w.alloc zero4) := (Upd.refl _ w).alloc _
  have c3 : (w.alloc zero4).cell? ⟨S, 3, none⟩ = some (.pointer (some ⟨s, 0, none⟩)) := cell_of_heap (hU0.keep h.out.blk (fun h => h)) 3
  have HG : Hid (Calls Tryz.prog 135 #[.pointer (some ⟨s, 0, none⟩), .string ⟨t.toArray⟩] (w.alloc zero4) fun e w' => e = .returned (.bool (aget L t).isSome) ∧ Upd (fun k => k = s ∨ k = m) (w.alloc zero4) w' ∧ Sto w' s m (adel L t) (u - takenOf L t)) := delete_any (h.out.sto.keep hU0 (fun h => h) (fun h => h)) t ht hL.out hu0 hu1
  have HU0 : Hid (Upd (fun _ => False) w (w.alloc zero4)) := hU0
  have hSl := lt_of_heap h.out.blk
  obtain ⟨ls, lm⟩ := h.out.sto.ne4
  obtain ⟨nS, nm⟩ := h.out.ne
  clear hU0
  unfold delAns
  generalize takenOf L t = tk at HG ⊢
  cases hg : (aget L t).isSome <;> rw [hg] at HG <;> clear hg
  all_goals
    go_enter Tryz.func128, Tryz.ntmps128
    go_wp2_with fail
    refine HG.out.mono ?_
    rintro e w2 ⟨rfl, hu2, hs2⟩
    obtain ⟨d0, d1, d2, d3, g0, g1, g2, g3⟩ := cells4 (new4 hu2 (by omega))
    have HU : Hid (Upd (fun k => k = s ∨ k = m) w w2) := (HU0.out.mono (fun _ _ h => h.elim)).trans hu2
    have HS : Hid (SrvT w2 S s m cm wb made dr (adel L t) (u - tk)) := ⟨HU.out.keep h.out.blk (by omega), hs2⟩
    clear hu2 hs2
    go_wp2
    first
      | exact bodyPost_ret (v := ansV ⟨st404, 0, [], false⟩) (by simp [results, Tryz.results128, go_sem, d0, d1, d2, d3, ansV, st404]) rfl ⟨rfl, HU.out.four _ (Nat.le_refl _) _ _ _ _, HS.out.four _ (by omega) (by omega) (by omega) _ _ _ _⟩
      | exact bodyPost_ret (v := ansV ⟨st204, 0, [], false⟩) (by simp [results, Tryz.results128, go_sem, d0, d1, d2, d3, ansV, st204]) rfl ⟨rfl, HU.out.four _ (Nat.le_refl _) _ _ _ _, HS.out.four _ (by omega) (by omega) (by omega) _ _ _ _⟩

end Go.Proofs.YtiiapfkcmdkkoaaGreatDoor

/-
  The server's answers: serve, faultStatus, reply.
-/
namespace Go.Proofs.YtiiapfkcmdkkoaaGreatDoor
open Go.RowKit Go.MapKept

/-- What a request asks. -/
structure Req where
  fault : Nat
  method : List UInt8
  target : List UInt8
  body : List UInt8
  close : Bool
def reqCells (q : Req) : Array Value := #[.int .i64 q.fault, .string ⟨q.method.toArray⟩, .string ⟨q.target.toArray⟩, .string ⟨q.body.toArray⟩, .bool q.close]

def mGet : List UInt8 := [71, 69, 84]
def mHead : List UInt8 := [72, 69, 65, 68]
def mPut : List UInt8 := [80, 85, 84]
def mDel : List UInt8 := [68, 69, 76, 69, 84, 69]

/-- The server's texts and how many bytes it says it keeps; what it answers. -/
def serveAns (L : Texts) (u : Int) (q : Req) : Ans :=
  if q.method = mGet then getAns L q.target
  else if q.method = mHead then { getAns L q.target with text := [] }
  else if q.method = mPut then putAns L u q.target q.body
  else if q.method = mDel then delAns L q.target
  else ⟨st405, 0, [], false⟩
def serveL (L : Texts) (u : Int) (q : Req) : Texts :=
  if q.method = mGet then L else if q.method = mHead then L else if q.method = mPut then putL L u q.target q.body else if q.method = mDel then adel L q.target else L
def serveU (L : Texts) (u : Int) (q : Req) : Int :=
  if q.method = mGet then u else if q.method = mHead then u else if q.method = mPut then putU L u q.target q.body else if q.method = mDel then u - takenOf L q.target else u

set_option maxHeartbeats 800000 in
theorem serve_any {w : World} {S s m cm wb made : Nat} {dr : Bool} {L : Texts} {u : Int} (h : Hid (SrvT w S s m cm wb made dr L u)) (q : Req) (ht : q.target.length ≤ 1000) (hx : q.body.length ≤ 100) (hL : Hid (∀ p ∈ L, p.2.length ≤ 100)) (hu0 : -100000 ≤ u) (hu1 : u ≤ 100000) :
    Calls Tryz.prog 114 #[.pointer (some ⟨S, 0, none⟩), .agg (reqCells q)] w fun e w' => e = .returned (ansV (serveAns L u q)) ∧ Upd (fun k => k = s ∨ k = m) w w' ∧ SrvT w' S s m cm wb made dr (serveL L u q) (serveU L u q) := by
  have hU0 : Upd (fun _ => False) w ((w.alloc (.cells (reqCells q) 160)).alloc zero4) := ((Upd.refl _ w).alloc _).alloc _
  have HS0 : Hid (SrvT ((w.alloc (.cells (reqCells q) 160)).alloc zero4) S s m cm wb made dr L u) := h.out.keep hU0 (fun h => h) (fun h => h) (fun h => h)
  have HU0 : Hid (Upd (fun _ => False) w ((w.alloc (.cells (reqCells q) 160)).alloc zero4)) := hU0
  have hSl := lt_of_heap h.out.blk
  obtain ⟨ls, lm⟩ := h.out.sto.ne4
  obtain ⟨nS, nm⟩ := h.out.ne
  clear hU0
  unfold reqCells at *
  by_cases hg : q.method = mGet
  · have HA : Hid (serveAns L u q = getAns L q.target ∧ serveL L u q = L ∧ serveU L u q = u) := by
      show _ ∧ _ ∧ _
      unfold serveAns serveL serveU; rw [if_pos hg, if_pos hg, if_pos hg]; exact ⟨rfl, rfl, rfl⟩
    rw [HA.out.1, HA.out.2.1, HA.out.2.2]
    have e1 : (q.method == [71, 69, 84]) = true := by rw [hg]; decide
    have HG := Calls.mono (sget_any HS0 q.target hL.out) (fun e w' h => (show Hid (e = .returned (ansV (getAns L q.target)) ∧ Upd (fun _ => False) ((w.alloc (.cells #[.int .i64 q.fault, .string ⟨q.method.toArray⟩, .string ⟨q.target.toArray⟩, .string ⟨q.body.toArray⟩, .bool q.close] 160)).alloc zero4) w') from h))
    have HC : Hid (Calls _ _ _ _ _) := HG
    clear hg HG HA
    generalize getAns L q.target = a at HC ⊢
    go_enter Tryz.func114, Tryz.ntmps114
    go_wp2_with fail
    refine HC.out.mono ?_
    intro e w1 hh
    obtain ⟨rfl, hu⟩ := hh.out
    clear hh
    have hn : w1.heap[w.heap.size + 1]? = some zero4 := hu.keep (by simp only [hpush, Array.getElem?_push, Array.size_push]; repeat (first | rw [if_pos trivial] | rw [if_pos (by omega)] | rw [if_neg (by omega)])) (fun h => h)
    obtain ⟨d0, d1, d2, d3, g0, g1, g2, g3⟩ := cells4 hn
    have HU : Hid (Upd (fun k => k = s ∨ k = m) w w1) := (HU0.out.trans hu).mono (fun _ _ h => h.elim)
    have HS : Hid (SrvT w1 S s m cm wb made dr L u) := HS0.out.keep hu (fun h => h) (fun h => h) (fun h => h)
    clear hu hn
    unfold ansV
    go_wp2
    exact bodyPost_ret (v := ansV a) (by simp [results, Tryz.results114, go_sem, d0, d1, d2, d3, ansV]) rfl ⟨rfl, HU.out.four _ (by omega) _ _ _ _, HS.out.four _ (by omega) (by omega) (by omega) _ _ _ _⟩
  have e1 : (q.method == [71, 69, 84]) = false := beq_eq_false_iff_ne.2 hg
  by_cases hh : q.method = mHead
  · have HA : Hid (serveAns L u q = { getAns L q.target with text := [] } ∧ serveL L u q = L ∧ serveU L u q = u) := by
      show _ ∧ _ ∧ _
      unfold serveAns serveL serveU; rw [if_neg hg, if_neg hg, if_neg hg, if_pos hh, if_pos hh, if_pos hh]; exact ⟨rfl, rfl, rfl⟩
    rw [HA.out.1, HA.out.2.1, HA.out.2.2]
    have e2 : (q.method == [72, 69, 65, 68]) = true := by rw [hh]; decide
    have HG := Calls.mono (sget_any HS0 q.target hL.out) (fun e w' h => (show Hid (e = .returned (ansV (getAns L q.target)) ∧ Upd (fun _ => False) ((w.alloc (.cells #[.int .i64 q.fault, .string ⟨q.method.toArray⟩, .string ⟨q.target.toArray⟩, .string ⟨q.body.toArray⟩, .bool q.close] 160)).alloc zero4) w') from h))
    have HC : Hid (Calls _ _ _ _ _) := HG
    clear hg hh HG HA
    generalize getAns L q.target = a at HC ⊢
    go_enter Tryz.func114, Tryz.ntmps114
    go_wp2_with fail
    refine HC.out.mono ?_
    intro e w1 hh
    obtain ⟨rfl, hu⟩ := hh.out
    clear hh
    have hn : w1.heap[w.heap.size + 1]? = some zero4 := hu.keep (by simp only [hpush, Array.getElem?_push, Array.size_push]; repeat (first | rw [if_pos trivial] | rw [if_pos (by omega)] | rw [if_neg (by omega)])) (fun h => h)
    obtain ⟨d0, d1, d2, d3, g0, g1, g2, g3⟩ := cells4 hn
    have hlt := lt_of_heap hn
    have HU : Hid (Upd (fun k => k = s ∨ k = m) w w1) := (HU0.out.trans hu).mono (fun _ _ h => h.elim)
    have HS : Hid (SrvT w1 S s m cm wb made dr L u) := HS0.out.keep hu (fun h => h) (fun h => h) (fun h => h)
    clear hu hn
    unfold ansV
    go_wp2
    refine bodyPost_ret (v := ansV { a with text := [] }) (by simp [results, Tryz.results114, go_sem, d0, d1, d2, d3, ansV, hlt]) rfl ⟨rfl, ?_, ?_⟩
    · exact (HU.out.four _ (by omega) _ _ _ _).alloc _
    · exact (HS.out.four _ (by omega) (by omega) (by omega) _ _ _ _).keep ((Upd.refl (fun _ => False) _).alloc _) (fun h => h) (fun h => h) (fun h => h)
  have e2 : (q.method == [72, 69, 65, 68]) = false := beq_eq_false_iff_ne.2 hh
  by_cases hp : q.method = mPut
  · have HA : Hid (serveAns L u q = putAns L u q.target q.body ∧ serveL L u q = putL L u q.target q.body ∧ serveU L u q = putU L u q.target q.body) := by
      show _ ∧ _ ∧ _
      unfold serveAns serveL serveU; rw [if_neg hg, if_neg hg, if_neg hg, if_neg hh, if_neg hh, if_neg hh, if_pos hp, if_pos hp, if_pos hp]; exact ⟨rfl, rfl, rfl⟩
    rw [HA.out.1, HA.out.2.1, HA.out.2.2]
    have e3 : (q.method == [80, 85, 84]) = true := by rw [hp]; decide
    have HG := Calls.mono (sput_any HS0 q.target q.body ht hx hL hu0 hu1) (fun e w' h => (show Hid (e = .returned (ansV (putAns L u q.target q.body)) ∧ Upd (fun k => k = s ∨ k = m) ((w.alloc (.cells #[.int .i64 q.fault, .string ⟨q.method.toArray⟩, .string ⟨q.target.toArray⟩, .string ⟨q.body.toArray⟩, .bool q.close] 160)).alloc zero4) w' ∧ SrvT w' S s m cm wb made dr (putL L u q.target q.body) (putU L u q.target q.body)) from h))
    have HC : Hid (Calls _ _ _ _ _) := HG
    clear hg hh hp HG HA
    generalize putAns L u q.target q.body = a at HC ⊢
    generalize putL L u q.target q.body = L' at HC ⊢
    generalize putU L u q.target q.body = u' at HC ⊢
    go_enter Tryz.func114, Tryz.ntmps114
    go_wp2_with fail
    refine HC.out.mono ?_
    intro e w1 hh
    obtain ⟨rfl, hu, hs⟩ := hh.out
    clear hh
    have hn : w1.heap[w.heap.size + 1]? = some zero4 := hu.keep (by simp only [hpush, Array.getElem?_push, Array.size_push]; repeat (first | rw [if_pos trivial] | rw [if_pos (by omega)] | rw [if_neg (by omega)])) (by omega)
    obtain ⟨d0, d1, d2, d3, g0, g1, g2, g3⟩ := cells4 hn
    have HU : Hid (Upd (fun k => k = s ∨ k = m) w w1) := (HU0.out.mono (fun _ _ h => h.elim)).trans hu
    have HS : Hid (SrvT w1 S s m cm wb made dr L' u') := hs
    clear hu hn hs
    unfold ansV
    go_wp2
    exact bodyPost_ret (v := ansV a) (by simp [results, Tryz.results114, go_sem, d0, d1, d2, d3, ansV]) rfl ⟨rfl, HU.out.four _ (by omega) _ _ _ _, HS.out.four _ (by omega) (by omega) (by omega) _ _ _ _⟩
  have e3 : (q.method == [80, 85, 84]) = false := beq_eq_false_iff_ne.2 hp
  by_cases hd : q.method = mDel
  · have HA : Hid (serveAns L u q = delAns L q.target ∧ serveL L u q = adel L q.target ∧ serveU L u q = u - takenOf L q.target) := by
      show _ ∧ _ ∧ _
      unfold serveAns serveL serveU; rw [if_neg hg, if_neg hg, if_neg hg, if_neg hh, if_neg hh, if_neg hh, if_neg hp, if_neg hp, if_neg hp, if_pos hd, if_pos hd, if_pos hd]; exact ⟨rfl, rfl, rfl⟩
    rw [HA.out.1, HA.out.2.1, HA.out.2.2]
    have e4 : (q.method == [68, 69, 76, 69, 84, 69]) = true := by rw [hd]; decide
    have HG := Calls.mono (sdel_any HS0 q.target ht hL hu0 hu1) (fun e w' h => (show Hid (e = .returned (ansV (delAns L q.target)) ∧ Upd (fun k => k = s ∨ k = m) ((w.alloc (.cells #[.int .i64 q.fault, .string ⟨q.method.toArray⟩, .string ⟨q.target.toArray⟩, .string ⟨q.body.toArray⟩, .bool q.close] 160)).alloc zero4) w' ∧ SrvT w' S s m cm wb made dr (adel L q.target) (u - takenOf L q.target)) from h))
    have HC : Hid (Calls _ _ _ _ _) := HG
    clear hg hh hp hd HG HA
    generalize delAns L q.target = a at HC ⊢
    generalize adel L q.target = L' at HC ⊢
    generalize u - takenOf L q.target = u' at HC ⊢
    go_enter Tryz.func114, Tryz.ntmps114
    go_wp2_with fail
    refine HC.out.mono ?_
    intro e w1 hh
    obtain ⟨rfl, hu, hs⟩ := hh.out
    clear hh
    have hn : w1.heap[w.heap.size + 1]? = some zero4 := hu.keep (by simp only [hpush, Array.getElem?_push, Array.size_push]; repeat (first | rw [if_pos trivial] | rw [if_pos (by omega)] | rw [if_neg (by omega)])) (by omega)
    obtain ⟨d0, d1, d2, d3, g0, g1, g2, g3⟩ := cells4 hn
    have HU : Hid (Upd (fun k => k = s ∨ k = m) w w1) := (HU0.out.mono (fun _ _ h => h.elim)).trans hu
    have HS : Hid (SrvT w1 S s m cm wb made dr L' u') := hs
    clear hu hn hs
    unfold ansV
    go_wp2
    exact bodyPost_ret (v := ansV a) (by simp [results, Tryz.results114, go_sem, d0, d1, d2, d3, ansV]) rfl ⟨rfl, HU.out.four _ (by omega) _ _ _ _, HS.out.four _ (by omega) (by omega) (by omega) _ _ _ _⟩
  · have HA : Hid (serveAns L u q = ⟨st405, 0, [], false⟩ ∧ serveL L u q = L ∧ serveU L u q = u) := by
      show _ ∧ _ ∧ _
      unfold serveAns serveL serveU; rw [if_neg hg, if_neg hg, if_neg hg, if_neg hh, if_neg hh, if_neg hh, if_neg hp, if_neg hp, if_neg hp, if_neg hd, if_neg hd, if_neg hd]; exact ⟨rfl, rfl, rfl⟩
    rw [HA.out.1, HA.out.2.1, HA.out.2.2]
    have e4 : (q.method == [68, 69, 76, 69, 84, 69]) = false := beq_eq_false_iff_ne.2 hd
    clear hg hh hp hd HA
    go_enter Tryz.func114, Tryz.ntmps114
    go_wp2
    refine bodyPost_ret (v := ansV ⟨st405, 0, [], false⟩) (by simp [results, Tryz.results114, go_sem, ansV, st405]) rfl ⟨rfl, ((Upd.refl _ _).alloc _).alloc _, ?_⟩
    exact h.out.keep (((Upd.refl (fun _ => False) _).alloc _).alloc _) (fun h => h) (fun h => h) (fun h => h)

end Go.Proofs.YtiiapfkcmdkkoaaGreatDoor
