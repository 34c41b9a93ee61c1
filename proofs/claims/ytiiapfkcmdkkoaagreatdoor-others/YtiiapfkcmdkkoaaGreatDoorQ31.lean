import Derived.Test.YtiiapfkcmdkkoaaGreatDoorQ12
import Derived.LoopN
import Derived.Deep.DeepCutAuto
/-
  The document's own reader (hearthref): classes of bytes, on.
-/
namespace Go.Proofs.YtiiapfkcmdkkoaaGreatDoor
open Go.RowKit

set_option maxHeartbeats 400000 in
theorem rLetter_any (b : Int) (w : World) : Calls Tryz.prog 110 #[.int .u8 b] w fun e w' => e = .returned (.bool (isCapB b || isSmallB b)) ∧ w' = w := by
  go_enter Tryz.func110, Tryz.ntmps110
  go_wp2
  all_goals
    go_ret
    exact ⟨ret_bool (by rw [Bool.eq_iff_iff]; simp [isCapB, isSmallB] <;> omega), rfl⟩
set_option maxHeartbeats 400000 in
theorem rDigit_any (b : Int) (w : World) : Calls Tryz.prog 86 #[.int .u8 b] w fun e w' => e = .returned (.bool (isDigB b)) ∧ w' = w := by
  go_enter Tryz.func86, Tryz.ntmps86
  go_wp2
  all_goals
    go_ret
    exact ⟨ret_bool (by simp [isDigB]; try omega), rfl⟩
set_option maxHeartbeats 400000 in
theorem rCapital_any (b : Int) (w : World) : Calls Tryz.prog 82 #[.int .u8 b] w fun e w' => e = .returned (.bool (isCapB b)) ∧ w' = w := by
  go_enter Tryz.func82, Tryz.ntmps82
  go_wp2
  all_goals
    go_ret
    exact ⟨ret_bool (by simp [isCapB]; try omega), rfl⟩
set_option maxHeartbeats 400000 in
theorem rInValue_any (b : Int) (w : World) : Calls Tryz.prog 85 #[.int .u8 b] w fun e w' => e = .returned (.bool (isValB b)) ∧ w' = w := by
  go_enter Tryz.func85, Tryz.ntmps85
  go_wp2
  all_goals
    go_ret
    exact ⟨ret_bool (by rw [Bool.eq_iff_iff]; simp [isValB] <;> omega), rfl⟩
set_option maxHeartbeats 400000 in
theorem rInName_any (b : Int) (w : World) : Calls Tryz.prog 84 #[.int .u8 b] w fun e w' => e = .returned (.bool (isNameB b)) ∧ w' = w := by
  unfold isNameB
  cases h1 : (isCapB b || isSmallB b) <;> cases h3 : isDigB b
  all_goals
    go_enter Tryz.func84, Tryz.ntmps84
    go_wp2_with (first
      | (go_at_call 110; refine (rLetter_any _ _).mono ?_; rw [h1]; rintro e w' ⟨rfl, rfl⟩)
      | (go_at_call 86; refine (rDigit_any _ _).mono ?_; rw [h3]; rintro e w' ⟨rfl, rfl⟩))
    all_goals
      go_ret
      exact ⟨ret_bool (by first | rfl | (rw [Bool.eq_iff_iff]; simp <;> omega)), rfl⟩
set_option maxHeartbeats 400000 in
theorem rInTarget_any (b : Int) (w : World) : Calls Tryz.prog 83 #[.int .u8 b] w fun e w' => e = .returned (.bool (isPathB b)) ∧ w' = w := by
  unfold isPathB isNameB
  cases h1 : (isCapB b || isSmallB b) <;> cases h3 : isDigB b
  all_goals
    go_enter Tryz.func83, Tryz.ntmps83
    go_wp2_with (first
      | (go_at_call 110; refine (rLetter_any _ _).mono ?_; rw [h1]; rintro e w' ⟨rfl, rfl⟩)
      | (go_at_call 86; refine (rDigit_any _ _).mono ?_; rw [h3]; rintro e w' ⟨rfl, rfl⟩))
    all_goals
      go_ret
      exact ⟨ret_bool (by first | rfl | (rw [Bool.eq_iff_iff]; simp <;> omega)), rfl⟩

/-- The bytes of a kind. -/
def inB (kind : Int) (b : Int) : Bool := if kind = 109 then isCapB b else if kind = 116 then isPathB b else if kind = 110 then isNameB b else if kind = 118 then isValB b else isSignB b

set_option maxHeartbeats 400000 in
theorem rIn_any (kind b : Int) (hk : kind = 109 ∨ kind = 116 ∨ kind = 110 ∨ kind = 118 ∨ kind = 120) (w : World) : Calls Tryz.prog 64 #[.int .u8 kind, .int .u8 b] w fun e w' => e = .returned (.bool (inB kind b)) ∧ w' = w := by
  rcases hk with rfl | rfl | rfl | rfl | rfl
  · go_enter Tryz.func64, Tryz.ntmps64
    go_wp2_with (go_at_call 82; refine (rCapital_any _ _).mono ?_; rintro e w' ⟨rfl, rfl⟩)
    go_ret
    exact ⟨rfl, rfl⟩
  · go_enter Tryz.func64, Tryz.ntmps64
    go_wp2_with (go_at_call 83; refine (rInTarget_any _ _).mono ?_; rintro e w' ⟨rfl, rfl⟩)
    go_ret
    exact ⟨rfl, rfl⟩
  · go_enter Tryz.func64, Tryz.ntmps64
    go_wp2_with (go_at_call 84; refine (rInName_any _ _).mono ?_; rintro e w' ⟨rfl, rfl⟩)
    go_ret
    exact ⟨rfl, rfl⟩
  · go_enter Tryz.func64, Tryz.ntmps64
    go_wp2_with (go_at_call 85; refine (rInValue_any _ _).mono ?_; rintro e w' ⟨rfl, rfl⟩)
    go_ret
    exact ⟨rfl, rfl⟩
  · have e0 : inB 120 b = isSignB b := rfl
    rw [e0]
    unfold isSignB
    cases h1 : isDigB b
    all_goals
      go_enter Tryz.func64, Tryz.ntmps64
      go_wp2_with (go_at_call 86; refine (rDigit_any _ _).mono ?_; rw [h1]; rintro e w' ⟨rfl, rfl⟩)
      all_goals
        go_ret
        exact ⟨ret_bool (by first | rfl | (rw [Bool.eq_iff_iff]; simp <;> omega)), rfl⟩

/-- A text that is read: what it is, where it stands, whether it ended too early, whether it is none. -/
structure Pn where
  s : ByteArray
  i : Nat
  more : Bool
  bad : Bool
def Pn.on (p : Pn) : Bool := !p.more && !p.bad
def PenAt (w : World) (P : Nat) (p : Pn) : Prop := w.heap[P]? = some (.cells #[.string p.s, .int .i64 p.i, .bool p.more, .bool p.bad] 86 (0, 0))

set_option maxHeartbeats 400000 in
theorem on_any {w : World} {P : Nat} {p : Pn} (h : Hid (PenAt w P p)) : Calls Tryz.prog 43 #[.pointer (some ⟨P, 0, none⟩)] w fun e w' => e = .returned (.bool p.on) ∧ w' = w := by
  have c2 : w.cell? ⟨P, 2, none⟩ = some (.bool p.more) := cell_of_heap h.out 2
  have c3 : w.cell? ⟨P, 3, none⟩ = some (.bool p.bad) := cell_of_heap h.out 3
  unfold Pn.on
  cases hm : p.more <;> cases hb : p.bad <;> rw [hm] at c2 <;> rw [hb] at c3
  all_goals
    go_enter Tryz.func43, Tryz.ntmps43
    go_wp2
    go_ret
    exact ⟨rfl, rfl⟩

end Go.Proofs.YtiiapfkcmdkkoaaGreatDoor

/-
  The document's own reader: exact, row.
-/
namespace Go.Proofs.YtiiapfkcmdkkoaaGreatDoor
open Go.RowKit

def Pn.exact1 (p : Pn) (c : UInt8) : Pn := if p.on = true then (if p.i < p.s.size then (if p.s.data.toList[p.i]? = some c then { p with i := p.i + 1 } else { p with bad := true }) else { p with more := true }) else p
def Pn.exact (p : Pn) (t : List UInt8) : Pn := t.foldl Pn.exact1 p

theorem exact1_off (p : Pn) (c : UInt8) (h : p.on = false) : p.exact1 c = p := by unfold Pn.exact1; rw [if_neg (by rw [h]; decide)]
theorem exact_off : ∀ (t : List UInt8) (p : Pn), p.on = false → p.exact t = p
  | [], _, _ => rfl
  | c :: t, p, h => by
    show (p.exact1 c).exact t = p
    rw [exact1_off p c h]
    exact exact_off t p h
theorem exact1_s (p : Pn) (c : UInt8) : (p.exact1 c).s = p.s ∧ (p.i ≤ p.s.size → (p.exact1 c).i ≤ p.s.size) := by
  unfold Pn.exact1
  split
  · split
    · split
      · exact ⟨rfl, fun _ => by show p.i + 1 ≤ p.s.size; omega⟩
      · exact ⟨rfl, fun h => h⟩
    · exact ⟨rfl, fun h => h⟩
  · exact ⟨rfl, fun h => h⟩
theorem exact_s : ∀ (t : List UInt8) (p : Pn), (p.exact t).s = p.s ∧ (p.i ≤ p.s.size → (p.exact t).i ≤ p.s.size)
  | [], _ => ⟨rfl, fun h => h⟩
  | c :: t, p => by
    have h1 := exact1_s p c
    have h2 := exact_s t (p.exact1 c)
    refine ⟨h2.1.trans h1.1, fun h => ?_⟩
    have := h2.2 (by rw [h1.1]; exact h1.2 h)
    rw [h1.1] at this
    exact this
theorem exact_step (p : Pn) (t : List UInt8) (k : Nat) (hk : k < t.length) : p.exact (t.take (k + 1)) = (p.exact (t.take k)).exact1 t[k] := by
  unfold Pn.exact
  rw [List.take_succ_eq_append_getElem hk, List.foldl_append]
  rfl
theorem exact_end (p : Pn) (t : List UInt8) (k : Nat) (h : (p.exact (t.take k)).on = false) : p.exact t = p.exact (t.take k) := by
  have : p.exact t = (p.exact (t.take k)).exact (t.drop k) := by
    unfold Pn.exact
    rw [← List.foldl_append, List.take_append_drop]
  rw [this, exact_off _ _ h]

theorem exact1_hit (s : ByteArray) (i : Nat) (c : UInt8) (h : i < s.size) (he : s[i] = c) : (⟨s, i, false, false⟩ : Pn).exact1 c = ⟨s, i + 1, false, false⟩ := by
  have h2 : s.data.toList[i]? = some c := by
    rw [Array.getElem?_toList, Array.getElem?_eq_getElem h, ← he]
    rfl
  simp only [Pn.exact1, Pn.on, Bool.not_false, Bool.and_self, if_true, h, h2]
theorem exact1_miss (s : ByteArray) (i : Nat) (c : UInt8) (h : i < s.size) (he : ¬ s[i] = c) : (⟨s, i, false, false⟩ : Pn).exact1 c = ⟨s, i, false, true⟩ := by
  have h2 : ¬ s.data.toList[i]? = some c := by
    rw [Array.getElem?_toList, Array.getElem?_eq_getElem h]
    intro hc
    injection hc with hc
    exact he hc
  simp only [Pn.exact1, Pn.on, Bool.not_false, Bool.and_self, if_true, h, h2, if_false]
theorem exact1_over (s : ByteArray) (i : Nat) (c : UInt8) (h : ¬ i < s.size) : (⟨s, i, false, false⟩ : Pn).exact1 c = ⟨s, i, true, false⟩ := by
  simp only [Pn.exact1, Pn.on, Bool.not_false, Bool.and_self, if_true, h, if_false]

theorem PenAt.set {w : World} {P : Nat} {p : Pn} (h : PenAt w P p) (i : Nat) (v : Value) : (w.setCell ⟨P, i, none⟩ v).heap[P]? = some (.cells (#[Value.string p.s, .int .i64 p.i, .bool p.more, .bool p.bad].setIfInBounds i v) 86 (0, 0)) := heap_setCell h i v

/-- What a method of the pen leaves. -/
def PenX (w w' : World) (P : Nat) (p : Pn) : Prop := PenAt w' P p ∧ Upd (fun k => k = P) w w'
theorem PenX.same {w w1 w2 : World} {P : Nat} {p : Pn} (h : PenX w w1 P p) (hu : Upd (fun _ => False) w1 w2) : PenX w w2 P p := ⟨hu.keep h.1 (fun h => h), h.2.trans (hu.mono (fun _ _ h => h.elim))⟩
theorem PenX.setI {w w1 : World} {P : Nat} {p : Pn} (h : PenX w w1 P p) (n : Nat) : PenX w (w1.setCell ⟨P, 1, none⟩ (.int .i64 n)) P { p with i := n } := by
  refine ⟨?_, h.2.trans (Upd.one _ _ _ _)⟩
  have := h.1.set 1 (.int .i64 n)
  unfold PenAt
  simpa using this
theorem PenX.setMore {w w1 : World} {P : Nat} {p : Pn} (h : PenX w w1 P p) : PenX w (w1.setCell ⟨P, 2, none⟩ (.bool true)) P { p with more := true } := by
  refine ⟨?_, h.2.trans (Upd.one _ _ _ _)⟩
  have := h.1.set 2 (.bool true)
  unfold PenAt
  simpa using this
theorem PenX.setBad {w w1 : World} {P : Nat} {p : Pn} (h : PenX w w1 P p) : PenX w (w1.setCell ⟨P, 3, none⟩ (.bool true)) P { p with bad := true } := by
  refine ⟨?_, h.2.trans (Upd.one _ _ _ _)⟩
  have := h.1.set 3 (.bool true)
  unfold PenAt
  simpa using this

set_option maxHeartbeats 1600000 in
set_option maxRecDepth 100000 in
theorem exact_any {w : World} {P : Nat} {p : Pn} (h : Hid (PenAt w P p)) (hi : p.i ≤ p.s.size) (hs : p.s.size ≤ 100000000) (t : List UInt8) (ht : t.length ≤ 1000) :
    Calls Tryz.prog 41 #[.pointer (some ⟨P, 0, none⟩), .string ⟨t.toArray⟩] w fun e w' => e = .returned (.tuple #[]) ∧ PenX w w' P (p.exact t) := by
  go_enter Tryz.func41, Tryz.ntmps41
  go_wp2_with fail
  go_loopw [4] (fun iv wr => ∃ k : Nat, iv = .int .i64 k ∧ k ≤ t.length ∧ Hid (PenX w wr P (p.exact (t.take k)))) (fun iv _ => t.length - (intOf iv).toNat)
  case atStart => exact ⟨0, rfl, Nat.zero_le _, h.out, Upd.refl _ _⟩
  case round =>
    obtain ⟨k, rfl, hk, hx⟩ := hrel
    by_cases hlt : k < t.length
    · have HSt := hid (exact_step p t k hlt)
      have HEn := hid (exact_end p t k)
      have hq := exact_s (t.take k) p
      have HNx := hid (exact_end p t (k + 1))
      generalize p.exact (t.take k) = q at *
      obtain ⟨qs, qi, qm, qb⟩ := q
      obtain ⟨hq1, hq2⟩ := hq
      simp only at hq1 hq2
      subst hq1
      replace hq2 := hq2 hi
      have c0 : wr.cell? ⟨P, 0, none⟩ = some (.string p.s) := cell_of_heap hx.out.1 0
      have c1 : wr.cell? ⟨P, 1, none⟩ = some (.int .i64 qi) := cell_of_heap hx.out.1 1
      have c2 : wr.cell? ⟨P, 2, none⟩ = some (.bool qm) := cell_of_heap hx.out.1 2
      have c3 : wr.cell? ⟨P, 3, none⟩ = some (.bool qb) := cell_of_heap hx.out.1 3
      have f1 : wr.frozen? ⟨P, 1, none⟩ = false := unfrozen_of_heap hx.out.1 1
      have f2 : wr.frozen? ⟨P, 2, none⟩ = false := unfrozen_of_heap hx.out.1 2
      have f3 : wr.frozen? ⟨P, 3, none⟩ = false := unfrozen_of_heap hx.out.1 3
      have HOn := hid (on_any (hid hx.out.1))
      cases hon : (⟨p.s, qi, qm, qb⟩ : Pn).on
      · rw [hon] at HOn
        have HE : Hid (PenX w wr P (p.exact t)) := by show PenX _ _ _ _; rw [HEn.out hon]; exact hx.out
        clear hx HSt HEn HNx hon
        go_wp2_with fail
        refine HOn.out.mono ?_
        rintro e w1 ⟨rfl, rfl⟩
        go_wp2
        exact bodyPost_ret (v := .tuple #[]) (by simp [results, Tryz.results41, go_sem]) rfl ⟨rfl, HE.out⟩
      · rw [hon] at HOn
        have hmb : qm = false ∧ qb = false := by
          unfold Pn.on at hon
          simpa using hon
        obtain ⟨rfl, rfl⟩ := hmb
        by_cases hin : qi < p.s.size
        · by_cases heq : p.s[qi] = t[k]
          · have HE : Hid (PenX w (wr.setCell ⟨P, 1, none⟩ (.int .i64 ((qi : Int) + 1))) P (p.exact (t.take (k + 1)))) := by
              show PenX _ _ _ _
              rw [HSt.out, exact1_hit p.s qi t[k] hin heq]
              exact hx.out.setI (qi + 1)
            have hb : ∀ hh : k < (⟨t.toArray⟩ : ByteArray).size, ((p.s[qi].toNat : Int) != (((⟨t.toArray⟩ : ByteArray)[k]'hh).toNat : Int)) = false := by
              intro hh
              have e1 : (⟨t.toArray⟩ : ByteArray)[k]'hh = t[k] := rfl
              rw [e1, heq]
              simp
            clear hx HSt HEn HNx hon heq
            go_wp2_with fail
            refine HOn.out.mono ?_
            rintro e w1 ⟨rfl, rfl⟩
            clear HOn
            go_wp2_with fail
            go_region
            all_goals go_wp2_with fail
            all_goals go_region
            all_goals go_wp2
            all_goals exact ⟨⟨k + 1, by go_num, by omega, HE.out.same (by first | exact Upd.refl _ _ | exact (Upd.refl _ _).drew | exact (Upd.refl _ _).drew.drew)⟩, by simp [intOf]; omega⟩
          · have HE : Hid (PenX w (wr.setCell ⟨P, 3, none⟩ (.bool true)) P (p.exact t)) := by
              show PenX _ _ _ _
              rw [HSt.out, exact1_miss p.s qi t[k] hin heq] at HNx
              rw [HNx.out rfl]
              exact hx.out.setBad
            have hb : ∀ hh : k < (⟨t.toArray⟩ : ByteArray).size, ((p.s[qi].toNat : Int) != (((⟨t.toArray⟩ : ByteArray)[k]'hh).toNat : Int)) = true := by
              intro hh
              have e1 : (⟨t.toArray⟩ : ByteArray)[k]'hh = t[k] := rfl
              rw [e1]
              have e2 : ¬ (p.s[qi].toNat : Int) = (t[k].toNat : Int) := fun e => heq (UInt8.toNat_inj.1 (by omega))
              simpa using e2
            clear hx HSt HEn HNx hon heq
            go_wp2_with fail
            refine HOn.out.mono ?_
            rintro e w1 ⟨rfl, rfl⟩
            clear HOn
            go_wp2_with fail
            go_region
            all_goals go_wp2_with fail
            all_goals go_region
            all_goals go_wp2
            all_goals exact bodyPost_ret (v := .tuple #[]) (by simp [results, Tryz.results41, go_sem]) rfl ⟨rfl, HE.out.same (by first | exact Upd.refl _ _ | exact (Upd.refl _ _).drew | exact (Upd.refl _ _).drew.drew)⟩
        · have HE : Hid (PenX w (wr.setCell ⟨P, 2, none⟩ (.bool true)) P (p.exact t)) := by
            show PenX _ _ _ _
            rw [HSt.out, exact1_over p.s qi t[k] hin] at HNx
            rw [HNx.out rfl]
            exact hx.out.setMore
          clear hx HSt HEn HNx hon
          go_wp2_with fail
          refine HOn.out.mono ?_
          rintro e w1 ⟨rfl, rfl⟩
          clear HOn
          go_wp2_with fail
          go_region
          all_goals go_wp2
          all_goals exact bodyPost_ret (v := .tuple #[]) (by simp [results, Tryz.results41, go_sem]) rfl ⟨rfl, HE.out.same (by first | exact Upd.refl _ _ | exact (Upd.refl _ _).drew | exact (Upd.refl _ _).drew.drew)⟩
    · obtain rfl : k = t.length := by omega
      have HE : Hid (PenX w wr P (p.exact t)) := by have := hx.out; rw [List.take_length] at this; exact this
      clear hx
      go_wp2
      exact bodyPost_end (v := .tuple #[]) (by simp [results, Tryz.results41, go_sem]) rfl ⟨rfl, HE.out⟩

end Go.Proofs.YtiiapfkcmdkkoaaGreatDoor
