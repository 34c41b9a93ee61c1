import Derived.Test.YtiiapfkcmdkkoaaGreatDoorQ00
import Derived.MapKept
import Derived.Test.YtiiapfkcmdkkoaaGreatDoorRows
import Derived.WalkKit
import Derived.WalkSpells
import Derived.WalkLawsBesides
import Derived.Laws.EntriesVeiled
import Derived.WideLaws
/-
  Maps of our own, as lists of pairs.
-/
namespace Go.Proofs.YtiiapfkcmdkkoaaGreatDoor
open Go.RowKit Go.MapKept

theorem map_erase {α β : Type} (f : α → β) : ∀ (l : List α) (j : Nat), (l.eraseIdx j).map f = (l.map f).eraseIdx j
  | [], _ => rfl
  | _ :: _, 0 => rfl
  | x :: l, j + 1 => by simp only [List.eraseIdx_cons_succ, List.map_cons]; rw [map_erase f l j]

section
variable {α β : Type} [BEq α] [LawfulBEq α]

/-- Where a key stands in a list of pairs (its length, if it doesn't). -/
def aidx (L : List (α × β)) (a : α) : Nat := L.findIdx fun p => p.1 == a
def aget (L : List (α × β)) (a : α) : Option β := (L[aidx L a]?).map (·.2)
def aput (L : List (α × β)) (a : α) (b : β) : List (α × β) := if aidx L a < L.length then L.set (aidx L a) (a, b) else L ++ [(a, b)]
def adel (L : List (α × β)) (a : α) : List (α × β) := L.eraseIdx (aidx L a)

/-- The entries of a map, in their order. -/
def Ents (kv : α → Value) (vv : β → Value) (es : Array MapEntry) (L : List (α × β)) : Prop := es.toList.map (fun e => (e.key, e.val)) = L.map (fun p => (kv p.1, vv p.2))

variable {kv : α → Value} {vv : β → Value} {d : TypeDesc}

theorem findNow_ents (hd : ∀ a, IsKey d (kv a)) (inj : ∀ a b, kv a = kv b → a = b) (a : α) : ∀ (l : List MapEntry) (L : List (α × β)) (i : Nat), l.map (fun e => (e.key, e.val)) = L.map (fun p => (kv p.1, vv p.2)) →
    Instr.findNow d (kv a) l i = some ((L[aidx L a]?).map fun p => (i + aidx L a, vv p.2))
  | [], [], i, _ => rfl
  | [], _ :: _, _, h => by simp at h
  | _ :: _, [], _, h => by simp at h
  | e :: l, p :: L, i, h => by
    simp only [List.map_cons, List.cons.injEq, Prod.mk.injEq] at h
    obtain ⟨⟨h1, h2⟩, h3⟩ := h
    obtain ⟨r, hr, hiff⟩ := sameNow_of_keys (hd a) (hd p.1)
    rw [← h1] at hr
    by_cases hp : p.1 = a
    · have : r = true := hiff.2 (by rw [hp])
      subst this
      have hi : aidx (p :: L) a = 0 := by simp [aidx, List.findIdx_cons, hp]
      simp [Instr.findNow, hr, hi, h2]
    · have hrf : r = false := by
        cases r
        · rfl
        · exact absurd (inj _ _ (hiff.1 rfl)).symm hp
      subst hrf
      have hb : (p.1 == a) = false := by simpa using hp
      have hi : aidx (p :: L) a = aidx L a + 1 := by simp [aidx, List.findIdx_cons, hb]
      rw [hi]
      simp only [Instr.findNow, hr]
      rw [findNow_ents hd inj a l L (i + 1) h3]
      simp only [List.getElem?_cons_succ]
      cases L[aidx L a]? <;> simp; omega

variable {P : Program} {w : World} {t kt et : TypeId} {m : Nat} {es : Array MapEntry} {clock : Nat} {L : List (α × β)}

theorem run_lookup_ents (hm : P.underlying t = some (.map kt et)) (hk : P.underlying kt = some d) (hd : ∀ a, IsKey d (kv a)) (inj : ∀ a b, kv a = kv b → a = b) {z : Value} (hz : (zeroValue et).run P w = .ok z w) (hb : w.heap[m]? = some (.map es clock)) (he : Ents kv vv es L) (a : α) :
    (Instr.lookup t (.map (some m)) (kv a) true).run P w = .ok (.tuple #[((aget L a).map vv).getD z, .bool (aget L a).isSome]) w := by
  have h1 := findNow_ents hd inj a es.toList L 0 he
  unfold aget
  cases hL : L[aidx L a]? with
  | none =>
    rw [hL] at h1
    simp [Instr.lookup, run_underlying hm, MapKept.run_getObj_map hb, run_checkKey hk (hd a), run_findKey hk h1, hz, Result.andThen]
  | some p =>
    rw [hL] at h1
    simp [Instr.lookup, run_underlying hm, MapKept.run_getObj_map hb, run_checkKey hk (hd a), run_findKey hk h1, Result.andThen]

theorem aidx_lt_of {L : List (α × β)} {a : α} {p : α × β} (h : L[aidx L a]? = some p) : aidx L a < L.length ∧ p.1 = a := by
  have h1 := (List.getElem?_eq_some_iff.1 h).1
  refine ⟨h1, ?_⟩
  have := List.findIdx_getElem (p := fun p : α × β => p.1 == a) (xs := L) (w := h1)
  have h2 := (List.getElem?_eq_some_iff.1 h).2
  have q : ((L[aidx L a]'h1).1 == a) = true := this
  rw [← h2]
  exact eq_of_beq q

theorem run_update_ents (hm : P.underlying t = some (.map kt et)) (hk : P.underlying kt = some d) (hd : ∀ a, IsKey d (kv a)) (inj : ∀ a b, kv a = kv b → a = b) (hb : w.heap[m]? = some (.map es clock)) (he : Ents kv vv es L) (a : α) (b : β) :
    ∃ es' clock', (Instr.mapUpdate t (.map (some m)) (kv a) (vv b)).run P w = .ok () { w with heap := w.heap.setIfInBounds m (.map es' clock') } ∧ Ents kv vv es' (aput L a b) := by
  have h1 := findNow_ents hd inj a es.toList L 0 he
  cases hL : L[aidx L a]? with
  | none =>
    rw [hL] at h1
    have hge : ¬ aidx L a < L.length := by
      intro hlt
      rw [List.getElem?_eq_getElem hlt] at hL; cases hL
    refine ⟨es.push { key := kv a, val := vv b, born := clock }, clock + 1, ?_, ?_⟩
    · simp [Instr.mapUpdate, run_underlying hm, MapKept.run_getObj_map hb, run_checkKey hk (hd a), run_findKey hk h1, MapKept.run_setObj_map _ hb, Result.andThen]
    · unfold Ents aput
      rw [if_neg hge]
      simp only [Array.toList_push, List.map_append, List.map_cons, List.map_nil]
      rw [he]
  | some p =>
    rw [hL] at h1
    obtain ⟨hlt, hpa⟩ := aidx_lt_of hL
    have hlen : es.toList.length = L.length := by have := congrArg List.length he; simpa using this
    have hj : ∃ e, es[aidx L a]? = some e ∧ e.key = kv a := by
      have h2 : (es.toList.map (fun e => (e.key, e.val)))[aidx L a]? = some (kv p.1, vv p.2) := by rw [he]; simp [hL]
      simp only [List.getElem?_map, Option.map_eq_some_iff, Array.getElem?_toList] at h2
      obtain ⟨e, h3, h4⟩ := h2
      refine ⟨e, h3, ?_⟩
      have := congrArg Prod.fst h4
      rw [hpa] at this
      exact this
    obtain ⟨e, hj, hke⟩ := hj
    refine ⟨es.modify (aidx L a) (fun e => { e with key := kv a, val := vv b }), clock, ?_, ?_⟩
    · simp [Instr.mapUpdate, run_underlying hm, MapKept.run_getObj_map hb, run_checkKey hk (hd a), run_findKey hk h1, hj, hke, run_keyThatStays (hd a), MapKept.run_setObj_map _ hb, Result.andThen]
    · unfold Ents aput
      rw [if_pos hlt]
      apply List.ext_getElem?
      intro j
      have hej : (es.toList.map (fun e => (e.key, e.val)))[j]? = (L.map (fun p => (kv p.1, vv p.2)))[j]? := by rw [he]
      simp only [List.getElem?_map, Array.getElem?_toList, Array.getElem?_modify, List.getElem?_set] at hej ⊢
      by_cases hjj : aidx L a = j
      · subst hjj
        rw [if_pos rfl, if_pos rfl, if_pos hlt, hj]
        rfl
      · rw [if_neg hjj, if_neg hjj]
        exact hej

theorem run_delete_ents (ty : TypeId) (hm : P.underlying t = some (.map kt et)) (hk : P.underlying kt = some d) (hd : ∀ a, IsKey d (kv a)) (inj : ∀ a b, kv a = kv b → a = b) (hb : w.heap[m]? = some (.map es clock)) (he : Ents kv vv es L) (a : α) :
    ∃ es', (Builtin.delete_ #[t, kt] ty #[.map (some m), kv a]).run P w = .ok (.tuple #[]) { w with heap := w.heap.setIfInBounds m (.map es' clock) } ∧ Ents kv vv es' (adel L a) := by
  have h1 := findNow_ents hd inj a es.toList L 0 he
  cases hL : L[aidx L a]? with
  | none =>
    rw [hL] at h1
    refine ⟨es, ?_, ?_⟩
    · simp [Builtin.delete_, run_underlying hm, MapKept.run_getObj_map hb, run_checkKey hk (hd a), run_findKey hk h1, MapKept.run_setObj_map _ hb, Result.andThen]
    · unfold adel
      rw [List.eraseIdx_of_length_le (by
        rcases Nat.lt_or_ge (aidx L a) L.length with h | h
        · rw [List.getElem?_eq_getElem h] at hL; cases hL
        · exact h)]
      exact he
  | some p =>
    rw [hL] at h1
    refine ⟨es.eraseIdxIfInBounds (aidx L a), ?_, ?_⟩
    · simp [Builtin.delete_, run_underlying hm, MapKept.run_getObj_map hb, run_checkKey hk (hd a), run_findKey hk h1, MapKept.run_setObj_map _ hb, Result.andThen]
    · unfold Ents adel
      rw [Array.toList_eraseIdxIfInBounds, map_erase, map_erase, he]

end
end Go.Proofs.YtiiapfkcmdkkoaaGreatDoor

/-
  The classes of bytes (package request, class.go): each predicate computes and leaves the world as it was.
-/
namespace Go.Proofs.YtiiapfkcmdkkoaaGreatDoor
open Go.RowKit

def isCapB (b : Int) : Bool := decide (65 ≤ b) && decide (b ≤ 90)
def isSmallB (b : Int) : Bool := decide (97 ≤ b) && decide (b ≤ 122)
def isDigB (b : Int) : Bool := decide (48 ≤ b) && decide (b ≤ 57)
def isNameB (b : Int) : Bool := isCapB b || isSmallB b || isDigB b || decide (b = 45)
def isPathB (b : Int) : Bool := isNameB b || decide (b = 47) || decide (b = 95) || decide (b = 46)
def isValB (b : Int) : Bool := decide (32 ≤ b) && decide (b ≤ 126) || decide (b = 9)
def isSignB (b : Int) : Bool := isDigB b || decide (65 ≤ b) && decide (b ≤ 70) || decide (97 ≤ b) && decide (b ≤ 102)

theorem ret_bool {a b : Bool} (h : a = b) : Ending.returned (.bool a) = .returned (.bool b) := by rw [h]

set_option maxHeartbeats 400000 in
theorem isCapital_any (b : Int) (w : World) :
    Calls Tryz.prog 174 #[.int .u8 b] w fun e w' => e = .returned (.bool (isCapB b)) ∧ w' = w := by
  go_enter Tryz.func174, Tryz.ntmps174
  go_wp2
  all_goals
    go_ret
    exact ⟨ret_bool (by simp [isCapB]; try omega), rfl⟩


set_option maxHeartbeats 400000 in
theorem isSmall_any (b : Int) (w : World) :
    Calls Tryz.prog 185 #[.int .u8 b] w fun e w' => e = .returned (.bool (isSmallB b)) ∧ w' = w := by
  go_enter Tryz.func185, Tryz.ntmps185
  go_wp2
  all_goals
    go_ret
    exact ⟨ret_bool (by simp [isSmallB]; try omega), rfl⟩

set_option maxHeartbeats 400000 in
theorem isDigit_any (b : Int) (w : World) :
    Calls Tryz.prog 186 #[.int .u8 b] w fun e w' => e = .returned (.bool (isDigB b)) ∧ w' = w := by
  go_enter Tryz.func186, Tryz.ntmps186
  go_wp2
  all_goals
    go_ret
    exact ⟨ret_bool (by simp [isDigB]; try omega), rfl⟩

set_option maxHeartbeats 400000 in
theorem isValueByte_any (b : Int) (w : World) :
    Calls Tryz.prog 191 #[.int .u8 b] w fun e w' => e = .returned (.bool (isValB b)) ∧ w' = w := by
  go_enter Tryz.func191, Tryz.ntmps191
  go_wp2
  all_goals
    go_ret
    exact ⟨ret_bool (by rw [Bool.eq_iff_iff]; simp [isValB] <;> omega), rfl⟩

set_option maxHeartbeats 400000 in
theorem isAny_any (b : Int) (w : World) :
    Calls Tryz.prog 202 #[.int .u8 b] w fun e w' => e = .returned (.bool true) ∧ w' = w := by
  go_enter Tryz.func202, Tryz.ntmps202
  go_wp2
  go_ret
  exact ⟨rfl, rfl⟩

set_option maxHeartbeats 400000 in
theorem isNameByte_any (b : Int) (w : World) :
    Calls Tryz.prog 180 #[.int .u8 b] w fun e w' => e = .returned (.bool (isNameB b)) ∧ w' = w := by
  unfold isNameB
  cases h1 : isCapB b <;> cases h2 : isSmallB b <;> cases h3 : isDigB b
  all_goals
    go_enter Tryz.func180, Tryz.ntmps180
    go_wp2_with (first
      | (go_at_call 174; refine (isCapital_any _ _).mono ?_; rintro e w' ⟨rfl, rfl⟩)
      | (go_at_call 185; refine (isSmall_any _ _).mono ?_; rintro e w' ⟨rfl, rfl⟩)
      | (go_at_call 186; refine (isDigit_any _ _).mono ?_; rintro e w' ⟨rfl, rfl⟩))
    all_goals
      go_ret
      exact ⟨ret_bool (by rw [Bool.eq_iff_iff]; simp), rfl⟩

set_option maxHeartbeats 400000 in
theorem isPathByte_any (b : Int) (w : World) :
    Calls Tryz.prog 178 #[.int .u8 b] w fun e w' => e = .returned (.bool (isPathB b)) ∧ w' = w := by
  unfold isPathB
  cases h1 : isNameB b
  all_goals
    go_enter Tryz.func178, Tryz.ntmps178
    go_wp2_with (first
      | (go_at_call 180; refine (isNameByte_any _ _).mono ?_; rintro e w' ⟨rfl, rfl⟩))
    all_goals
      go_ret
      exact ⟨ret_bool (by first | rfl | (rw [Bool.eq_iff_iff]; simp <;> omega)), rfl⟩

set_option maxHeartbeats 400000 in
theorem isSign_any (b : Int) (w : World) :
    Calls Tryz.prog 193 #[.int .u8 b] w fun e w' => e = .returned (.bool (isSignB b)) ∧ w' = w := by
  unfold isSignB
  cases h1 : isDigB b
  all_goals
    go_enter Tryz.func193, Tryz.ntmps193
    go_wp2_with (first
      | (go_at_call 186; refine (isDigit_any _ _).mono ?_; rintro e w' ⟨rfl, rfl⟩))
    all_goals
      go_ret
      exact ⟨ret_bool (by first | rfl | (rw [Bool.eq_iff_iff]; simp <;> omega)), rfl⟩

end Go.Proofs.YtiiapfkcmdkkoaaGreatDoor
