import Derived.Test.YtohoddhegkjehaaGreatDoorG3
/-
  A connection's bytes, as a machine: reading on is the same however they were cut.
-/
namespace Go.Proofs.YtohoddhegkjehaaGreatDoor
open Go.RowKit Go.MapKept

/-- A connection, and the texts that it asks. -/
structure Cs where
  cx : CX
  L : Texts
  u : Int

def Cs.read (dr : Bool) (x : Cs) (b : UInt8) : Cs := ⟨x.cx.next x.L x.u dr b, x.cx.nextL x.L x.u b, x.cx.nextU x.L x.u b⟩
def Cs.reads (dr : Bool) (x : Cs) (l : List UInt8) : Cs := l.foldl (Cs.read dr) x
def Cs.bare (x : Cs) : Cs := { x with cx := { x.cx with out := [] } }
def Cs.goes (x : Cs) : Prop := x.cx.kind ≠ 2 ∧ x.cx.out.length < 250
instance (x : Cs) : Decidable x.goes := by unfold Cs.goes; infer_instance

/-- Bytes are read as far as the connection does: how many. -/
def Cs.ate (dr : Bool) : Cs → List UInt8 → Nat
  | _, [] => 0
  | x, b :: l => if x.goes then (x.read dr b).ate dr l + 1 else 0

theorem ate_le (dr : Bool) : ∀ (l : List UInt8) (x : Cs), x.ate dr l ≤ l.length
  | [], _ => Nat.le_refl _
  | b :: l, x => by
    unfold Cs.ate
    split
    · have := ate_le dr l (x.read dr b); simp; omega
    · simp
theorem ate_goes (dr : Bool) : ∀ (l : List UInt8) (x : Cs) (k : Nat), k < x.ate dr l → (x.reads dr (l.take k)).goes
  | [], _, k, h => absurd h (Nat.not_lt_zero k)
  | b :: l, x, k, h => by
    unfold Cs.ate at h
    by_cases hg : x.goes
    · rw [if_pos hg] at h
      match k with
      | 0 => exact hg
      | k + 1 => exact ate_goes dr l (x.read dr b) k (by omega)
    · rw [if_neg hg] at h; exact absurd h (Nat.not_lt_zero k)
theorem ate_stops (dr : Bool) : ∀ (l : List UInt8) (x : Cs), x.ate dr l < l.length → ¬ (x.reads dr (l.take (x.ate dr l))).goes
  | [], _, h => absurd h (Nat.not_lt_zero _)
  | b :: l, x, h => by
    unfold Cs.ate at h ⊢
    by_cases hg : x.goes
    · rw [if_pos hg] at h ⊢
      exact ate_stops dr l (x.read dr b) (by simp at h; omega)
    · rw [if_neg hg] at h ⊢; exact hg

/-- What waits to be read takes what there is room for. -/
def Cs.admit (x : Cs) (l : List UInt8) : Cs := if x.cx.kind = 2 then x else { x with cx := { x.cx with unread := x.cx.unread ++ l.take (300 - x.cx.unread.length) } }
def Cs.admits (x : Cs) (l : List UInt8) : Nat := if x.cx.kind = 2 then 0 else min l.length (300 - x.cx.unread.length)
/-- Bytes come. -/
def Cs.got (dr : Bool) (x : Cs) (l : List UInt8) : Cs := (x.reads dr (l.take (x.ate dr l))).admit (l.drop (x.ate dr l))
def Cs.gets (dr : Bool) (x : Cs) (l : List UInt8) : Nat := x.ate dr l + (x.reads dr (l.take (x.ate dr l))).admits (l.drop (x.ate dr l))
/-- What waits is taken, at most so many. -/
def Cs.take (dr : Bool) (x : Cs) (n : Nat) : Cs := Cs.got dr { x with cx := { x.cx with out := x.cx.out.drop n, unread := [] } } x.cx.unread

theorem reads_app (dr : Bool) (x : Cs) (a b : List UInt8) : x.reads dr (a ++ b) = (x.reads dr a).reads dr b := List.foldl_append

/-- One byte after the other, until a last answer; all that was answered. -/
def Cs.run (dr : Bool) : Cs → List UInt8 → Cs × List UInt8
  | x, [] => (x, [])
  | x, b :: l => if x.cx.kind = 2 then (x, []) else (((x.read dr b).bare.run dr l).1, (x.read dr b).cx.out ++ ((x.read dr b).bare.run dr l).2)

theorem next_set (x : CX) (L : Texts) (u : Int) (dr : Bool) (b : UInt8) (o ur : List UInt8) :
    ({ x with out := o, unread := ur } : CX).nextL L u b = x.nextL L u b ∧ ({ x with out := o, unread := ur } : CX).nextU L u b = x.nextU L u b ∧
    ∃ l, (x.next L u dr b).out = x.out ++ l ∧ ({ x with out := o, unread := ur } : CX).next L u dr b = { x.next L u dr b with out := o ++ l, unread := ur } := by
  refine ⟨rfl, rfl, ?_⟩
  have e : ({ x with out := o, unread := ur } : CX).rd = x.rd := rfl
  unfold CX.next
  rw [e]
  split
  · exact ⟨_, rfl, rfl⟩
  · exact ⟨[], by simp, by simp⟩

/-- What a byte is answered does not hang on what waits. -/
theorem read_set (dr : Bool) (x : Cs) (b : UInt8) (o ur : List UInt8) :
    ∃ l, (x.read dr b).cx.out = x.cx.out ++ l ∧ Cs.read dr { x with cx := { x.cx with out := o, unread := ur } } b = { x.read dr b with cx := { (x.read dr b).cx with out := o ++ l, unread := ur } } := by
  obtain ⟨h1, h2, l, h3, h4⟩ := next_set x.cx x.L x.u dr b o ur
  refine ⟨l, h3, ?_⟩
  unfold Cs.read
  simp only
  rw [h4]
  rfl
theorem read_unread (dr : Bool) (x : Cs) (b : UInt8) : (x.read dr b).cx.unread = x.cx.unread := next_unread _ _ _ _
theorem cs_reads_unread (dr : Bool) : ∀ (l : List UInt8) (x : Cs), (x.reads dr l).cx.unread = x.cx.unread
  | [], _ => rfl
  | b :: l, x => (cs_reads_unread dr l (x.read dr b)).trans (read_unread dr x b)

/-- A state without what waits. -/
def Cs.core (x : Cs) : Cs := { x with cx := { x.cx with out := [], unread := [] } }
theorem core_core (x : Cs) : x.core.core = x.core := rfl
theorem read_core (dr : Bool) (x y : Cs) (b : UInt8) (h : x.core = y.core) : (x.read dr b).core = (y.read dr b).core ∧ ∃ l, (x.read dr b).cx.out = x.cx.out ++ l ∧ (y.read dr b).cx.out = y.cx.out ++ l := by
  obtain ⟨l, h1, h2⟩ := read_set dr x b [] []
  obtain ⟨l', h1', h2'⟩ := read_set dr y b [] []
  have e : Cs.read dr x.core b = Cs.read dr y.core b := by rw [h]
  have e1 : Cs.read dr x.core b = { x.read dr b with cx := { (x.read dr b).cx with out := [] ++ l, unread := [] } } := h2
  have e2 : Cs.read dr y.core b = { y.read dr b with cx := { (y.read dr b).cx with out := [] ++ l', unread := [] } } := h2'
  have hl : l = l' := by
    have := congrArg (fun z : Cs => z.cx.out) (e1.symm.trans (e.trans e2))
    simpa using this
  refine ⟨?_, l, h1, by rw [hl]; exact h1'⟩
  have := congrArg Cs.core (e1.symm.trans (e.trans e2))
  exact this
theorem core_kind {x y : Cs} (h : x.core = y.core) : x.cx.kind = y.cx.kind := by
  have := congrArg (fun z : Cs => z.cx.kind) h
  exact this
theorem bare_core (x : Cs) : x.bare.core = x.core := rfl

theorem run_core (dr : Bool) : ∀ (l : List UInt8) (x y : Cs), x.core = y.core → (x.run dr l).1.core = (y.run dr l).1.core ∧ (x.cx.out = y.cx.out → (x.run dr l).2 = (y.run dr l).2)
  | [], x, y, h => ⟨h, fun _ => rfl⟩
  | b :: l, x, y, h => by
    have hk := core_kind h
    simp only [Cs.run]
    by_cases h2 : x.cx.kind = 2
    · rw [if_pos h2, if_pos (by omega)]; exact ⟨h, fun _ => rfl⟩
    · rw [if_neg h2, if_neg (by omega)]
      obtain ⟨h3, t, h4, h5⟩ := read_core dr x y b h
      have ih := run_core dr l (x.read dr b).bare (y.read dr b).bare (by rw [bare_core, bare_core]; exact h3)
      exact ⟨ih.1, fun ho => by simp only; rw [ih.2 rfl, h4, h5, ho]⟩

/-- A last answer was made: nothing more comes. -/
theorem csrun_over (dr : Bool) (x : Cs) (l : List UInt8) (h : x.cx.kind = 2) : x.run dr l = (x, []) := by
  cases l with
  | nil => rfl
  | cons b l => simp only [Cs.run]; rw [if_pos h]

theorem run_app (dr : Bool) : ∀ (a b : List UInt8) (x : Cs), x.cx.out = [] → x.run dr (a ++ b) = (((x.run dr a).1.run dr b).1, (x.run dr a).2 ++ ((x.run dr a).1.run dr b).2)
  | [], b, x, _ => rfl
  | c :: a, b, x, h => by
    simp only [List.cons_append, Cs.run]
    by_cases h2 : x.cx.kind = 2
    · rw [if_pos h2, if_pos h2]; simp only; rw [csrun_over dr x b h2]; rfl
    · rw [if_neg h2, if_neg h2]
      have ih := run_app dr a b (x.read dr c).bare rfl
      simp only
      rw [ih]
      simp [List.append_assoc]

/-- Bytes that are read where what waits grows: the same as one by one. -/
theorem reads_run (dr : Bool) : ∀ (l : List UInt8) (x : Cs), (∀ k, k < l.length → (x.reads dr (l.take k)).cx.kind ≠ 2) →
    (x.bare.run dr l).1.core = (x.reads dr l).core ∧ (x.reads dr l).cx.out = x.cx.out ++ (x.bare.run dr l).2
  | [], x, _ => ⟨rfl, by show x.cx.out = x.cx.out ++ []; simp⟩
  | b :: l, x, h => by
    have h0 : x.cx.kind ≠ 2 := h 0 (by simp)
    obtain ⟨h3, t, h4, h5⟩ := read_core dr x x.bare b rfl
    have ih := reads_run dr l (x.read dr b) (fun k hk => h (k + 1) (by simp; omega))
    have hr : x.reads dr (b :: l) = (x.read dr b).reads dr l := rfl
    have h0' : ¬ x.bare.cx.kind = 2 := h0
    simp only [Cs.run]
    rw [if_neg h0', hr]
    have hc := run_core dr l (x.bare.read dr b).bare (x.read dr b).bare (by rw [bare_core, bare_core]; exact h3.symm)
    refine ⟨?_, ?_⟩
    · simp only; rw [hc.1, ih.1]
    · simp only
      rw [ih.2, hc.2 rfl, h4, h5]
      show _ = x.cx.out ++ (([] ++ t) ++ _)
      simp [List.append_assoc]

theorem run_out (dr : Bool) : ∀ (l : List UInt8) (x : Cs), x.cx.out = [] → (x.run dr l).1.cx.out = []
  | [], _, h => h
  | b :: l, x, h => by
    simp only [Cs.run]
    split
    · exact h
    · exact run_out dr l _ rfl

/-- What is still to come of a connection over which m comes: its last state, and all that is answered. -/
def Cs.rest (dr : Bool) (x : Cs) (m : List UInt8) : Cs × List UInt8 := ((x.core.run dr (x.cx.unread ++ m)).1.core, x.cx.out ++ (x.core.run dr (x.cx.unread ++ m)).2)

theorem rest_over (dr : Bool) (x : Cs) (m : List UInt8) (h : x.cx.kind = 2) : x.rest dr m = (x.core, x.cx.out) := by
  unfold Cs.rest
  rw [csrun_over dr x.core _ h]
  simp [core_core]

theorem core_of_bare {x : Cs} (h : x.cx.unread = []) : x.core = x.bare := by
  obtain ⟨⟨k, s, u, o⟩, L, t⟩ := x
  simp only at h
  subst h
  rfl

theorem rest_ate (dr : Bool) (x : Cs) (l m : List UInt8) (hu : x.cx.unread = []) :
    x.rest dr (l ++ m) = (((x.reads dr (l.take (x.ate dr l))).core.run dr (l.drop (x.ate dr l) ++ m)).1.core, (x.reads dr (l.take (x.ate dr l))).cx.out ++ ((x.reads dr (l.take (x.ate dr l))).core.run dr (l.drop (x.ate dr l) ++ m)).2) := by
  have hle := ate_le dr l x
  have hr := reads_run dr (l.take (x.ate dr l)) x (by
    intro k hk
    have hk' : k < x.ate dr l := by rw [List.length_take] at hk; omega
    rw [List.take_take, Nat.min_eq_left (by omega)]
    exact (ate_goes dr l x k hk').1)
  generalize hz : x.reads dr (l.take (x.ate dr l)) = z at hr ⊢
  generalize x.ate dr l = a at hr ⊢
  unfold Cs.rest
  rw [hu, List.nil_append]
  have e : l ++ m = l.take a ++ (l.drop a ++ m) := by rw [← List.append_assoc, List.take_append_drop]
  rw [e, run_app dr _ _ _ rfl]
  rw [core_of_bare hu]
  have hc := run_core dr (l.drop a ++ m) (x.bare.run dr (l.take a)).1 z.core (by rw [core_core]; exact hr.1)
  have ho : (x.bare.run dr (l.take a)).1.cx.out = z.core.cx.out := run_out dr _ _ rfl
  simp only
  rw [hc.1, hc.2 ho, hr.2, List.append_assoc]

/-- However much of what comes is taken: what is still to come is the same. -/
theorem rest_got (dr : Bool) (x : Cs) (l m : List UInt8) (hu : x.cx.unread = []) : (x.got dr l).rest dr (l.drop (x.gets dr l) ++ m) = x.rest dr (l ++ m) := by
  rw [rest_ate dr x l m hu]
  have hun : (x.reads dr (l.take (x.ate dr l))).cx.unread = [] := by rw [cs_reads_unread, hu]
  unfold Cs.got Cs.gets Cs.admit Cs.admits
  generalize x.reads dr (l.take (x.ate dr l)) = z at hun ⊢
  generalize x.ate dr l = a
  by_cases hk : z.cx.kind = 2
  · rw [if_pos hk, rest_over dr z _ hk, csrun_over dr z.core _ hk]
    simp [core_core]
  · rw [if_neg hk, if_neg hk]
    unfold Cs.rest
    have e1 : ({ z with cx := { z.cx with unread := z.cx.unread ++ (l.drop a).take (300 - z.cx.unread.length) } } : Cs).core = z.core := rfl
    rw [e1]
    simp only
    rw [hun]
    have e2 : ([] : List UInt8) ++ (l.drop a).take (300 - ([] : List UInt8).length) ++ (l.drop (a + min (l.drop a).length (300 - ([] : List UInt8).length)) ++ m) = l.drop a ++ m := by
      rw [List.nil_append, ← List.append_assoc]
      congr 1
      rw [← List.drop_drop]
      generalize l.drop a = q
      simp only [List.length_nil, Nat.sub_zero]
      by_cases h3 : q.length ≤ 300
      · rw [Nat.min_eq_left h3, List.take_of_length_le h3, List.drop_length, List.append_nil]
      · rw [Nat.min_eq_right (by omega), List.take_append_drop]
    rw [e2]

/-- While it is not blocked nothing is left unread. -/
def Cs.Fits (x : Cs) : Prop := x.cx.unread.length ≤ 300 ∧ (x.cx.unread ≠ [] → x.cx.kind ≠ 2 ∧ 250 ≤ x.cx.out.length)

theorem fits_got (dr : Bool) (x : Cs) (l : List UInt8) (hu : x.cx.unread = []) : (x.got dr l).Fits := by
  have hun : (x.reads dr (l.take (x.ate dr l))).cx.unread = [] := by rw [cs_reads_unread, hu]
  have hs := ate_stops dr l x
  unfold Cs.got Cs.admit
  generalize x.reads dr (l.take (x.ate dr l)) = z at hun hs ⊢
  generalize x.ate dr l = a at hs ⊢
  by_cases hk : z.cx.kind = 2
  · rw [if_pos hk]; unfold Cs.Fits; rw [hun]; simp
  · rw [if_neg hk]
    refine ⟨by show (z.cx.unread ++ (l.drop a).take (300 - z.cx.unread.length)).length ≤ 300; rw [hun]; simp; omega, fun hne => ⟨hk, ?_⟩⟩
    have hne' : z.cx.unread ++ (l.drop a).take (300 - z.cx.unread.length) ≠ [] := hne
    have hlt : a < l.length := by
      rcases Nat.lt_or_ge a l.length with h | h
      · exact h
      · rw [hun, List.drop_eq_nil_of_le h] at hne'; simp at hne'
    have := hs hlt
    unfold Cs.goes at this
    show 250 ≤ z.cx.out.length
    rcases Nat.lt_or_ge z.cx.out.length 250 with h | h
    · exact absurd ⟨hk, h⟩ this
    · exact h

theorem drop_all {l : List UInt8} {n : Nat} (h : l.length ≤ n) : l.drop n = [] := List.drop_eq_nil_of_le h

/-- Where it all has room and no last answer is made, all is taken. -/
theorem gets_all (dr : Bool) (x : Cs) (l : List UInt8) (hu : x.cx.unread = []) (hl : l.length ≤ 300) (hk : (x.got dr l).cx.kind ≠ 2) : x.gets dr l = l.length := by
  have hle := ate_le dr l x
  have hun : (x.reads dr (l.take (x.ate dr l))).cx.unread = [] := by rw [cs_reads_unread, hu]
  unfold Cs.got Cs.admit at hk
  unfold Cs.gets Cs.admits
  generalize x.reads dr (l.take (x.ate dr l)) = z at hun hk ⊢
  generalize x.ate dr l = a at hle hk ⊢
  by_cases h2 : z.cx.kind = 2
  · rw [if_pos h2] at hk; exact absurd h2 hk
  · rw [if_neg h2, hun]; simp; omega

/-- All that waits is taken: what is still to come is the same. -/
theorem rest_take (dr : Bool) (x : Cs) (n : Nat) (m : List UInt8) (hn : x.cx.out.length ≤ n) (hf : x.Fits) : x.rest dr m = (((x.take dr n).rest dr m).1, x.cx.out ++ ((x.take dr n).rest dr m).2) := by
  have hy : ({ x with cx := { x.cx with out := x.cx.out.drop n, unread := [] } } : Cs) = x.core := by rw [drop_all hn]; rfl
  unfold Cs.take
  rw [hy]
  have h1 := rest_got dr x.core x.cx.unread m rfl
  have h2 : x.core.rest dr (x.cx.unread ++ m) = ((x.rest dr m).1, (x.core.run dr (x.cx.unread ++ m)).2) := by unfold Cs.rest; rfl
  have h3 : (x.core.got dr x.cx.unread).rest dr m = (x.core.got dr x.cx.unread).rest dr (x.cx.unread.drop (x.core.gets dr x.cx.unread) ++ m) := by
    by_cases hk : (x.core.got dr x.cx.unread).cx.kind = 2
    · rw [rest_over dr _ _ hk, rest_over dr _ _ hk]
    · rw [gets_all dr x.core x.cx.unread rfl hf.1 hk, List.drop_length, List.nil_append]
  rw [h3, h1, h2]
  rfl
theorem fits_take (dr : Bool) (x : Cs) (n : Nat) : (x.take dr n).Fits := fits_got dr _ _ rfl

/-- How often it can still be taken from. -/
def Cs.left (x : Cs) : Nat := x.cx.unread.length + (if x.cx.out = [] then 0 else 1)
theorem ate_pos (dr : Bool) (x : Cs) (l : List UInt8) (hl : l ≠ []) (hg : x.goes) : 1 ≤ x.ate dr l := by
  cases l with
  | nil => exact absurd rfl hl
  | cons b l => unfold Cs.ate; rw [if_pos hg]; omega
theorem got_unread (dr : Bool) (x : Cs) (l : List UInt8) (hu : x.cx.unread = []) : (x.got dr l).cx.unread.length ≤ l.length - x.ate dr l := by
  have hun : (x.reads dr (l.take (x.ate dr l))).cx.unread = [] := by rw [cs_reads_unread, hu]
  unfold Cs.got Cs.admit
  generalize x.reads dr (l.take (x.ate dr l)) = z at hun ⊢
  generalize x.ate dr l = a
  by_cases h2 : z.cx.kind = 2
  · rw [if_pos h2, hun]; simp
  · rw [if_neg h2]
    show (z.cx.unread ++ (l.drop a).take (300 - z.cx.unread.length)).length ≤ _
    rw [hun]; simp; omega
theorem left_take (dr : Bool) (x : Cs) (n : Nat) (hn : x.cx.out.length ≤ n) (hf : x.Fits) (ho : x.cx.out ≠ []) : (x.take dr n).left < x.left := by
  have hy : ({ x with cx := { x.cx with out := x.cx.out.drop n, unread := [] } } : Cs) = x.core := by rw [drop_all hn]; rfl
  unfold Cs.take
  rw [hy]
  unfold Cs.left
  rw [if_neg ho]
  by_cases hu : x.cx.unread = []
  · rw [hu]
    have e : x.core.got dr [] = x.core := by
      unfold Cs.got Cs.admit
      show (if x.cx.kind = 2 then x.core else { x.core with cx := { x.core.cx with unread := [] ++ ([] : List UInt8).take _ } }) = _
      simp
      intro _
      rfl
    rw [e]
    show 0 + (if ([] : List UInt8) = [] then 0 else 1) < _
    simp
  · have hg : x.core.goes := ⟨(hf.2 hu).1, by show ([] : List UInt8).length < 250; simp⟩
    have h1 := ate_pos dr x.core x.cx.unread hu hg
    have h2 := got_unread dr x.core x.cx.unread rfl
    have h3 : 0 < x.cx.unread.length := List.length_pos_iff.2 hu
    split <;> omega

end Go.Proofs.YtohoddhegkjehaaGreatDoor
