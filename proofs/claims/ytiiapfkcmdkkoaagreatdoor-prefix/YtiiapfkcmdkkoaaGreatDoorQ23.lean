import Derived.Test.YtiiapfkcmdkkoaaGreatDoorQ22
/-
  A connection's bytes, as a machine: reading on is the same however they were cut.
-/
namespace Go.Proofs.YtiiapfkcmdkkoaaGreatDoor
open Go.RowKit Go.MapKept

/-- A connection, and the texts that it asks. -/
structure Cs where
  cx : CX
  L : Texts
  u : Int

def Cs.read (dr : Bool) (x : Cs) (b : UInt8) : Cs := ⟨x.cx.next x.L x.u dr b, x.cx.nextL x.L x.u b, x.cx.nextU x.L x.u b⟩
def Cs.reads (dr : Bool) (x : Cs) (l : List UInt8) : Cs := l.foldl (Cs.read dr) x
def Cs.bare (x : Cs) : Cs := { x with cx := { x.cx with out := [] } }
def Cs.goes (x : Cs) : Prop := x.cx.kind ≠ 2 ∧ x.cx.out.length < 250
instance (x : Cs) : Decidable x.goes := by unfold Cs.goes; infer_instance

/-- Bytes are read as far as the connection does: how many. -/
def Cs.ate (dr : Bool) : Cs → List UInt8 → Nat
  | _, [] => 0
  | x, b :: l => if x.goes then (x.read dr b).ate dr l + 1 else 0

theorem ate_le (dr : Bool) : ∀ (l : List UInt8) (x : Cs), x.ate dr l ≤ l.length
  | [], _ => Nat.le_refl _
  | b :: l, x => by
    unfold Cs.ate
    split
    · have := ate_le dr l (x.read dr b); simp; omega
    · simp
theorem ate_goes (dr : Bool) : ∀ (l : List UInt8) (x : Cs) (k : Nat), k < x.ate dr l → (x.reads dr (l.take k)).goes
  | [], _, k, h => absurd h (Nat.not_lt_zero k)
  | b :: l, x, k, h => by
    unfold Cs.ate at h
    by_cases hg : x.goes
    · rw [if_pos hg] at h
      match k with
      | 0 => exact hg
      | k + 1 => exact ate_goes dr l (x.read dr b) k (by omega)
    · rw [if_neg hg] at h; exact absurd h (Nat.not_lt_zero k)
theorem ate_stops (dr : Bool) : ∀ (l : List UInt8) (x : Cs), x.ate dr l < l.length → ¬ (x.reads dr (l.take (x.ate dr l))).goes
  | [], _, h => absurd h (Nat.not_lt_zero _)
  | b :: l, x, h => by
    unfold Cs.ate at h ⊢
    by_cases hg : x.goes
    · rw [if_pos hg] at h ⊢
      exact ate_stops dr l (x.read dr b) (by simp at h; omega)
    · rw [if_neg hg] at h ⊢; exact hg

/-- What waits to be read takes what there is room for. -/
def Cs.admit (x : Cs) (l : List UInt8) : Cs := if x.cx.kind = 2 then x else { x with cx := { x.cx with unread := x.cx.unread ++ l.take (300 - x.cx.unread.length) } }
def Cs.admits (x : Cs) (l : List UInt8) : Nat := if x.cx.kind = 2 then 0 else min l.length (300 - x.cx.unread.length)
/-- Bytes come. -/
def Cs.got (dr : Bool) (x : Cs) (l : List UInt8) : Cs := (x.reads dr (l.take (x.ate dr l))).admit (l.drop (x.ate dr l))
def Cs.gets (dr : Bool) (x : Cs) (l : List UInt8) : Nat := x.ate dr l + (x.reads dr (l.take (x.ate dr l))).admits (l.drop (x.ate dr l))
/-- What waits is taken, at most so many. -/
def Cs.take (dr : Bool) (x : Cs) (n : Nat) : Cs := Cs.got dr { x with cx := { x.cx with out := x.cx.out.drop n, unread := [] } } x.cx.unread

theorem reads_app (dr : Bool) (x : Cs) (a b : List UInt8) : x.reads dr (a ++ b) = (x.reads dr a).reads dr b := List.foldl_append

/-- One byte after the other, until a last answer; all that was answered. -/
def Cs.run (dr : Bool) : Cs → List UInt8 → Cs × List UInt8
  | x, [] => (x, [])
  | x, b :: l => if x.cx.kind = 2 then (x, []) else (((x.read dr b).bare.run dr l).1, (x.read dr b).cx.out ++ ((x.read dr b).bare.run dr l).2)

theorem next_set (x : CX) (L : Texts) (u : Int) (dr : Bool) (b : UInt8) (o ur : List UInt8) :
    ({ x with out := o, unread := ur } : CX).nextL L u b = x.nextL L u b ∧ ({ x with out := o, unread := ur } : CX).nextU L u b = x.nextU L u b ∧
    ∃ l, (x.next L u dr b).out = x.out ++ l ∧ ({ x with out := o, unread := ur } : CX).next L u dr b = { x.next L u dr b with out := o ++ l, unread := ur } := by
  refine ⟨rfl, rfl, ?_⟩
  have e : ({ x with out := o, unread := ur } : CX).rd = x.rd := rfl
  unfold CX.next
  rw [e]
  split
  · exact ⟨_, rfl, rfl⟩
  · exact ⟨[], by simp, by simp⟩

/-- What a byte is answered does not hang on what waits. -/
theorem read_set (dr : Bool) (x : Cs) (b : UInt8) (o ur : List UInt8) :
    ∃ l, (x.read dr b).cx.out = x.cx.out ++ l ∧ Cs.read dr { x with cx := { x.cx with out := o, unread := ur } } b = { x.read dr b with cx := { (x.read dr b).cx with out := o ++ l, unread := ur } } := by
  obtain ⟨h1, h2, l, h3, h4⟩ := next_set x.cx x.L x.u dr b o ur
  refine ⟨l, h3, ?_⟩
  unfold Cs.read
  simp only
  rw [h4]
  rfl
theorem read_unread (dr : Bool) (x : Cs) (b : UInt8) : (x.read dr b).cx.unread = x.cx.unread := next_unread _ _ _ _
theorem cs_reads_unread (dr : Bool) : ∀ (l : List UInt8) (x : Cs), (x.reads dr l).cx.unread = x.cx.unread
  | [], _ => rfl
  | b :: l, x => (cs_reads_unread dr l (x.read dr b)).trans (read_unread dr x b)

/-- A state without what waits. -/
def Cs.core (x : Cs) : Cs := { x with cx := { x.cx with out := [], unread := [] } }
theorem core_core (x : Cs) : x.core.core = x.core := rfl
theorem read_core (dr : Bool) (x y : Cs) (b : UInt8) (h : x.core = y.core) : (x.read dr b).core = (y.read dr b).core ∧ ∃ l, (x.read dr b).cx.out = x.cx.out ++ l ∧ (y.read dr b).cx.out = y.cx.out ++ l := by
  obtain ⟨l, h1, h2⟩ := read_set dr x b [] []
  obtain ⟨l', h1', h2'⟩ := read_set dr y b [] []
  have e : Cs.read dr x.core b = Cs.read dr y.core b := by rw [h]
  have e1 : Cs.read dr x.core b = { x.read dr b with cx := { (x.read dr b).cx with out := [] ++ l, unread := [] } } := h2
  have e2 : Cs.read dr y.core b = { y.read dr b with cx := { (y.read dr b).cx with out := [] ++ l', unread := [] } } := h2'
  have hl : l = l' := by
    have := congrArg (fun z : Cs => z.cx.out) (e1.symm.trans (e.trans e2))
    simpa using this
  refine ⟨?_, l, h1, by rw [hl]; exact h1'⟩
  have := congrArg Cs.core (e1.symm.trans (e.trans e2))
  exact this
theorem core_kind {x y : Cs} (h : x.core = y.core) : x.cx.kind = y.cx.kind := by
  have := congrArg (fun z : Cs => z.cx.kind) h
  exact this
theorem bare_core (x : Cs) : x.bare.core = x.core := rfl

theorem run_core (dr : Bool) : ∀ (l : List UInt8) (x y : Cs), x.core = y.core → (x.run dr l).1.core = (y.run dr l).1.core ∧ (x.cx.out = y.cx.out → (x.run dr l).2 = (y.run dr l).2)
  | [], x, y, h => ⟨h, fun _ => rfl⟩
  | b :: l, x, y, h => by
    have hk := core_kind h
    simp only [Cs.run]
    by_cases h2 : x.cx.kind = 2
    · rw [if_pos h2, if_pos (by omega)]; exact ⟨h, fun _ => rfl⟩
    · rw [if_neg h2, if_neg (by omega)]
      obtain ⟨h3, t, h4, h5⟩ := read_core dr x y b h
      have ih := run_core dr l (x.read dr b).bare (y.read dr b).bare (by rw [bare_core, bare_core]; exact h3)
      exact ⟨ih.1, fun ho => by simp only; rw [ih.2 rfl, h4, h5, ho]⟩

/-- A last answer was made: nothing more comes. -/
theorem csrun_over (dr : Bool) (x : Cs) (l : List UInt8) (h : x.cx.kind = 2) : x.run dr l = (x, []) := by
  cases l with
  | nil => rfl
  | cons b l => simp only [Cs.run]; rw [if_pos h]

theorem run_app (dr : Bool) : ∀ (a b : List UInt8) (x : Cs), x.cx.out = [] → x.run dr (a ++ b) = (((x.run dr a).1.run dr b).1, (x.run dr a).2 ++ ((x.run dr a).1.run dr b).2)
  | [], b, x, _ => rfl
  | c :: a, b, x, h => by
    simp only [List.cons_append, Cs.run]
    by_cases h2 : x.cx.kind = 2
    · rw [if_pos h2, if_pos h2]; simp only; rw [csrun_over dr x b h2]; rfl
    · rw [if_neg h2, if_neg h2]
      have ih := run_app dr a b (x.read dr c).bare rfl
      simp only
      rw [ih]
      simp [List.append_assoc]

/-- Bytes that are read where what waits grows: the same as one by one. -/
theorem reads_run (dr : Bool) : ∀ (l : List UInt8) (x : Cs), (∀ k, k < l.length → (x.reads dr (l.take k)).cx.kind ≠ 2) →
    (x.bare.run dr l).1.core = (x.reads dr l).core ∧ (x.reads dr l).cx.out = x.cx.out ++ (x.bare.run dr l).2
  | [], x, _ => ⟨rfl, by show x.cx.out = x.cx.out ++ []; simp⟩
  | b :: l, x, h => by
    have h0 : x.cx.kind ≠ 2 := h 0 (by simp)
    obtain ⟨h3, t, h4, h5⟩ := read_core dr x x.bare b rfl
    have ih := reads_run dr l (x.read dr b) (fun k hk => h (k + 1) (by simp; omega))
    have hr : x.reads dr (b :: l) = (x.read dr b).reads dr l := rfl
    have h0' : ¬ x.bare.cx.kind = 2 := h0
    simp only [Cs.run]
    rw [if_neg h0', hr]
    have hc := run_core dr l (x.bare.read dr b).bare (x.read dr b).bare (by rw [bare_core, bare_core]; exact h3.symm)
    refine ⟨?_, ?_⟩
    · simp only; rw [hc.1, ih.1]
    · simp only
      rw [ih.2, hc.2 rfl, h4, h5]
      show _ = x.cx.out ++ (([] ++ t) ++ _)
      simp [List.append_assoc]

theorem run_out (dr : Bool) : ∀ (l : List UInt8) (x : Cs), x.cx.out = [] → (x.run dr l).1.cx.out = []
  | [], _, h => h
  | b :: l, x, h => by
    simp only [Cs.run]
    split
    · exact h
    · exact run_out dr l _ rfl

/-- What is still to come of a connection over which m comes: its last state, and all that is answered. -/
def Cs.rest (dr : Bool) (x : Cs) (m : List UInt8) : Cs × List UInt8 := ((x.core.run dr (x.cx.unread ++ m)).1.core, x.cx.out ++ (x.core.run dr (x.cx.unread ++ m)).2)

theorem rest_over (dr : Bool) (x : Cs) (m : List UInt8) (h : x.cx.kind = 2) : x.rest dr m = (x.core, x.cx.out) := by
  unfold Cs.rest
  rw [csrun_over dr x.core _ h]
  simp [core_core]

theorem core_of_bare {x : Cs} (h : x.cx.unread = []) : x.core = x.bare := by
  obtain ⟨⟨k, s, u, o⟩, L, t⟩ := x
  simp only at h
  subst h
  rfl

theorem rest_ate (dr : Bool) (x : Cs) (l m : List UInt8) (hu : x.cx.unread = []) :
    x.rest dr (l ++ m) = (((x.reads dr (l.take (x.ate dr l))).core.run dr (l.drop (x.ate dr l) ++ m)).1.core, (x.reads dr (l.take (x.ate dr l))).cx.out ++ ((x.reads dr (l.take (x.ate dr l))).core.run dr (l.drop (x.ate dr l) ++ m)).2) := by
  have hle := ate_le dr l x
  have hr := reads_run dr (l.take (x.ate dr l)) x (by
    intro k hk
    have hk' : k < x.ate dr l := by rw [List.length_take] at hk; omega
    rw [List.take_take, Nat.min_eq_left (by omega)]
    exact (ate_goes dr l x k hk').1)
  generalize hz : x.reads dr (l.take (x.ate dr l)) = z at hr ⊢
  generalize x.ate dr l = a at hr ⊢
  unfold Cs.rest
  rw [hu, List.nil_append]
  have e : l ++ m = l.take a ++ (l.drop a ++ m) := by rw [← List.append_assoc, List.take_append_drop]
  rw [e, run_app dr _ _ _ rfl]
  rw [core_of_bare hu]
  have hc := run_core dr (l.drop a ++ m) (x.bare.run dr (l.take a)).1 z.core (by rw [core_core]; exact hr.1)
  have ho : (x.bare.run dr (l.take a)).1.cx.out = z.core.cx.out := run_out dr _ _ rfl
  simp only
  rw [hc.1, hc.2 ho, hr.2, List.append_assoc]

/-- However much of what comes is taken: what is still to come is the same. -/
theorem rest_got (dr : Bool) (x : Cs) (l m : List UInt8) (hu : x.cx.unread = []) : (x.got dr l).rest dr (l.drop (x.gets dr l) ++ m) = x.rest dr (l ++ m) := by
  rw [rest_ate dr x l m hu]
  have hun : (x.reads dr (l.take (x.ate dr l))).cx.unread = [] := by rw [cs_reads_unread, hu]
  unfold Cs.got Cs.gets Cs.admit Cs.admits
  generalize x.reads dr (l.take (x.ate dr l)) = z at hun ⊢
  generalize x.ate dr l = a
  by_cases hk : z.cx.kind = 2
  · rw [if_pos hk, rest_over dr z _ hk, csrun_over dr z.core _ hk]
    simp [core_core]
  · rw [if_neg hk, if_neg hk]
    unfold Cs.rest
    have e1 : ({ z with cx := { z.cx with unread := z.cx.unread ++ (l.drop a).take (300 - z.cx.unread.length) } } : Cs).core = z.core := rfl
    rw [e1]
    simp only
    rw [hun]
    have e2 : ([] : List UInt8) ++ (l.drop a).take (300 - ([] : List UInt8).length) ++ (l.drop (a + min (l.drop a).length (300 - ([] : List UInt8).length)) ++ m) = l.drop a ++ m := by
      rw [List.nil_append, ← List.append_assoc]
      congr 1
      rw [← List.drop_drop]
      generalize l.drop a = q
      simp only [List.length_nil, Nat.sub_zero]
      by_cases h3 : q.length ≤ 300
      · rw [Nat.min_eq_left h3, List.take_of_length_le h3, List.drop_length, List.append_nil]
      · rw [Nat.min_eq_right (by omega), List.take_append_drop]
    rw [e2]

/-- While it is not blocked nothing is left unread. -/
def Cs.Fits (x : Cs) : Prop := x.cx.unread.length ≤ 300 ∧ (x.cx.unread ≠ [] → x.cx.kind ≠ 2 ∧ 250 ≤ x.cx.out.length)

theorem fits_got (dr : Bool) (x : Cs) (l : List UInt8) (hu : x.cx.unread = []) : (x.got dr l).Fits := by
  have hun : (x.reads dr (l.take (x.ate dr l))).cx.unread = [] := by rw [cs_reads_unread, hu]
  have hs := ate_stops dr l x
  unfold Cs.got Cs.admit
  generalize x.reads dr (l.take (x.ate dr l)) = z at hun hs ⊢
  generalize x.ate dr l = a at hs ⊢
  by_cases hk : z.cx.kind = 2
  · rw [if_pos hk]; unfold Cs.Fits; rw [hun]; simp
  · rw [if_neg hk]
    refine ⟨by show (z.cx.unread ++ (l.drop a).take (300 - z.cx.unread.length)).length ≤ 300; rw [hun]; simp; omega, fun hne => ⟨hk, ?_⟩⟩
    have hne' : z.cx.unread ++ (l.drop a).take (300 - z.cx.unread.length) ≠ [] := hne
    have hlt : a < l.length := by
      rcases Nat.lt_or_ge a l.length with h | h
      · exact h
      · rw [hun, List.drop_eq_nil_of_le h] at hne'; simp at hne'
    have := hs hlt
    unfold Cs.goes at this
    show 250 ≤ z.cx.out.length
    rcases Nat.lt_or_ge z.cx.out.length 250 with h | h
    · exact absurd ⟨hk, h⟩ this
    · exact h

theorem drop_all {l : List UInt8} {n : Nat} (h : l.length ≤ n) : l.drop n = [] := List.drop_eq_nil_of_le h

/-- Where it all has room and no last answer is made, all is taken. -/
theorem gets_all (dr : Bool) (x : Cs) (l : List UInt8) (hu : x.cx.unread = []) (hl : l.length ≤ 300) (hk : (x.got dr l).cx.kind ≠ 2) : x.gets dr l = l.length := by
  have hle := ate_le dr l x
  have hun : (x.reads dr (l.take (x.ate dr l))).cx.unread = [] := by rw [cs_reads_unread, hu]
  unfold Cs.got Cs.admit at hk
  unfold Cs.gets Cs.admits
  generalize x.reads dr (l.take (x.ate dr l)) = z at hun hk ⊢
  generalize x.ate dr l = a at hle hk ⊢
  by_cases h2 : z.cx.kind = 2
  · rw [if_pos h2] at hk; exact absurd h2 hk
  · rw [if_neg h2, hun]; simp; omega

/-- All that waits is taken: what is still to come is the same. -/
theorem rest_take (dr : Bool) (x : Cs) (n : Nat) (m : List UInt8) (hn : x.cx.out.length ≤ n) (hf : x.Fits) : x.rest dr m = (((x.take dr n).rest dr m).1, x.cx.out ++ ((x.take dr n).rest dr m).2) := by
  have hy : ({ x with cx := { x.cx with out := x.cx.out.drop n, unread := [] } } : Cs) = x.core := by rw [drop_all hn]; rfl
  unfold Cs.take
  rw [hy]
  have h1 := rest_got dr x.core x.cx.unread m rfl
  have h2 : x.core.rest dr (x.cx.unread ++ m) = ((x.rest dr m).1, (x.core.run dr (x.cx.unread ++ m)).2) := by unfold Cs.rest; rfl
  have h3 : (x.core.got dr x.cx.unread).rest dr m = (x.core.got dr x.cx.unread).rest dr (x.cx.unread.drop (x.core.gets dr x.cx.unread) ++ m) := by
    by_cases hk : (x.core.got dr x.cx.unread).cx.kind = 2
    · rw [rest_over dr _ _ hk, rest_over dr _ _ hk]
    · rw [gets_all dr x.core x.cx.unread rfl hf.1 hk, List.drop_length, List.nil_append]
  rw [h3, h1, h2]
  rfl
theorem fits_take (dr : Bool) (x : Cs) (n : Nat) : (x.take dr n).Fits := fits_got dr _ _ rfl

/-- How often it can still be taken from. -/
def Cs.left (x : Cs) : Nat := x.cx.unread.length + (if x.cx.out = [] then 0 else 1)
theorem ate_pos (dr : Bool) (x : Cs) (l : List UInt8) (hl : l ≠ []) (hg : x.goes) : 1 ≤ x.ate dr l := by
  cases l with
  | nil => exact absurd rfl hl
  | cons b l => unfold Cs.ate; rw [if_pos hg]; omega
theorem got_unread (dr : Bool) (x : Cs) (l : List UInt8) (hu : x.cx.unread = []) : (x.got dr l).cx.unread.length ≤ l.length - x.ate dr l := by
  have hun : (x.reads dr (l.take (x.ate dr l))).cx.unread = [] := by rw [cs_reads_unread, hu]
  unfold Cs.got Cs.admit
  generalize x.reads dr (l.take (x.ate dr l)) = z at hun ⊢
  generalize x.ate dr l = a
  by_cases h2 : z.cx.kind = 2
  · rw [if_pos h2, hun]; simp
  · rw [if_neg h2]
    show (z.cx.unread ++ (l.drop a).take (300 - z.cx.unread.length)).length ≤ _
    rw [hun]; simp; omega
theorem left_take (dr : Bool) (x : Cs) (n : Nat) (hn : x.cx.out.length ≤ n) (hf : x.Fits) (ho : x.cx.out ≠ []) : (x.take dr n).left < x.left := by
  have hy : ({ x with cx := { x.cx with out := x.cx.out.drop n, unread := [] } } : Cs) = x.core := by rw [drop_all hn]; rfl
  unfold Cs.take
  rw [hy]
  unfold Cs.left
  rw [if_neg ho]
  by_cases hu : x.cx.unread = []
  · rw [hu]
    have e : x.core.got dr [] = x.core := by
      unfold Cs.got Cs.admit
      show (if x.cx.kind = 2 then x.core else { x.core with cx := { x.core.cx with unread := [] ++ ([] : List UInt8).take _ } }) = _
      simp
      intro _
      rfl
    rw [e]
    show 0 + (if ([] : List UInt8) = [] then 0 else 1) < _
    simp
  · have hg : x.core.goes := ⟨(hf.2 hu).1, by show ([] : List UInt8).length < 250; simp⟩
    have h1 := ate_pos dr x.core x.cx.unread hu hg
    have h2 := got_unread dr x.core x.cx.unread rfl
    have h3 : 0 < x.cx.unread.length := List.length_pos_iff.2 hu
    split <;> omega

end Go.Proofs.YtiiapfkcmdkkoaaGreatDoor

/-
  Server.receive: bytes come over a connection.
-/
namespace Go.Proofs.YtiiapfkcmdkkoaaGreatDoor
open Go.RowKit Go.MapKept

theorem bytes_len2 (a : Ans) (h1 : a.status.length ≤ 35) (h2 : a.length ≤ 100) (h3 : a.text.length ≤ 100) : a.bytes.length ≤ 200 := by
  have hi := itoa_len a.length h2
  unfold Ans.bytes httpL crlf clL ccL
  simp only [List.length_append]
  split <;> split <;> simp <;> omega

theorem status_get (L : Texts) (t : List UInt8) : (getAns L t).status.length ≤ 35 := by
  unfold getAns
  split
  · show st200.length ≤ 35; decide
  · show st404.length ≤ 35; decide
theorem status_len (L : Texts) (u : Int) (dr : Bool) (q : Req) : (replyAns L u dr q).status.length ≤ 35 := by
  unfold replyAns
  split
  · show (serveAns L u q).status.length ≤ 35
    unfold serveAns putAns delAns
    have hg := status_get L q.target
    repeat' split
    all_goals first | exact hg | exact (by decide)
  · unfold faultSt
    show (if q.fault = 2 then st413 else if q.fault = 3 then st431 else st400).length ≤ 35
    repeat' split
    all_goals decide
theorem next_out2 {x : CX} {L : Texts} {u : Int} (ht : TInv L u) (dr : Bool) (b : UInt8) : ∃ l, (x.next L u dr b).out = x.out ++ l ∧ l.length ≤ 200 := by
  unfold CX.next
  split
  · have hs := ht.small dr (x.rd.read b).req
    exact ⟨_, rfl, bytes_len2 _ (status_len _ _ _ _) hs.2.1 hs.2.2⟩
  · exact ⟨[], by simp, by simp⟩

/-- What holds of a connection and the texts at all times. -/
structure CsI (x : Cs) : Prop where
  ci : CInv x.cx
  ti : TInv x.L x.u
  out : x.cx.out.length ≤ 449

theorem CsI.read {x : Cs} (h : CsI x) (dr : Bool) (hg : x.goes) (b : UInt8) : CsI (x.read dr b) := by
  refine ⟨h.ci.next _ _ _ _, h.ci.nextT h.ti b, ?_⟩
  obtain ⟨l, h1, h2⟩ := next_out2 (x := x.cx) h.ti dr b
  show (x.cx.next x.L x.u dr b).out.length ≤ 449
  rw [h1, List.length_append]
  have := hg.2
  omega
theorem CsI.ate (dr : Bool) : ∀ (l : List UInt8) (x : Cs) (_ : CsI x) (k : Nat), k ≤ x.ate dr l → CsI (x.reads dr (l.take k))
  | [], x, h, k, _ => by rw [List.take_nil]; exact h
  | b :: l, x, h, 0, _ => h
  | b :: l, x, h, k + 1, hk => by
    unfold Cs.ate at hk
    by_cases hg : x.goes
    · rw [if_pos hg] at hk
      exact CsI.ate dr l (x.read dr b) (h.read dr hg b) k (by omega)
    · rw [if_neg hg] at hk; omega
theorem CsI.admit {x : Cs} (h : CsI x) (l : List UInt8) : CsI (x.admit l) := by
  unfold Cs.admit
  split
  · exact h
  · exact ⟨⟨h.ci.rd, h.ci.tag, h.ci.kind⟩, h.ti, h.out⟩
theorem CsI.got {x : Cs} (h : CsI x) (dr : Bool) (l : List UInt8) : CsI (x.got dr l) := (CsI.ate dr l x h _ (Nat.le_refl _)).admit _
theorem CsI.take {x : Cs} (h : CsI x) (dr : Bool) (n : Nat) : CsI (x.take dr n) := by
  unfold Cs.take
  refine CsI.got (x := { x with cx := { x.cx with out := x.cx.out.drop n, unread := [] } }) ⟨⟨h.ci.rd, h.ci.tag, h.ci.kind⟩, h.ti, ?_⟩ dr _
  show (x.cx.out.drop n).length ≤ 449
  have := h.out
  simp
  omega

theorem cs_reads_succ (dr : Bool) (x : Cs) (s : ByteArray) (k : Nat) (h : k < s.size) : x.reads dr (s.data.toList.take (k + 1)) = (x.reads dr (s.data.toList.take k)).read dr s[k] := by
  have hk : k < s.data.toList.length := by rw [Array.length_toList]; exact h
  unfold Cs.reads
  rw [List.take_succ_eq_append_getElem hk, List.foldl_append]
  rfl

theorem cs_reads_id (dr : Bool) : ∀ (l : List UInt8) (x : Cs), (x.reads dr l).cx.id = x.cx.id
  | [], _ => rfl
  | b :: l, x => by
    have h1 : (x.read dr b).cx.id = x.cx.id := by
      show (x.cx.next x.L x.u dr b).id = _
      unfold CX.next
      split <;> rfl
    have h2 := cs_reads_id dr l (x.read dr b)
    unfold Cs.reads at h2 ⊢
    rw [List.foldl_cons, h2, h1]

theorem ReadX.trans {F F1 G G1 : Nat → Prop} {I : List Int} {W W1 : Wst} {w w1 w2 : World} {c S s m cm wb made : Nat} {dr : Bool} {x : CX} {L : Texts} {u : Int} (hu : Upd (fun k => F k ∨ k = s ∨ k = m ∨ G k) w w1) (hf : ∀ k, F1 k → F k ∨ (w.heap.size ≤ k ∧ k < w1.heap.size)) (hg : ∀ k, G1 k → G k ∨ (w.heap.size ≤ k ∧ k < w1.heap.size)) (hst : WStep x.id W W1) (h : ReadX F1 G1 I W1 w1 w2 c S s m cm wb made dr x L u) : ReadX F G I W w w2 c S s m cm wb made dr x L u := by
  obtain ⟨F2, G2, W2, dv, uv, ov, h1, hs, ⟨q1, q2, q3, q4⟩, h2, h3, h4, h5⟩ := h
  refine ⟨F2, G2, W2, dv, uv, ov, h1, hs, ⟨q1, q2, hst.trans q3, q4⟩, ⟨h2.os.trans hu.os, h2.tape.trans hu.tape, h2.output.trans hu.output, Nat.le_trans hu.size h2.size, fun k hk hn => (h2.block k (Nat.lt_of_lt_of_le hk hu.size) (fun e => ?_)).trans (hu.block k hk hn)⟩, fun k hk => ?_, fun k hk => ?_, h5⟩
  · rcases e with e | e | e | e
    · rcases hf k e with h6 | h6
      · exact hn (Or.inl h6)
      · omega
    · exact hn (Or.inr (Or.inl e))
    · exact hn (Or.inr (Or.inr (Or.inl e)))
    · rcases hg k e with h6 | h6
      · exact hn (Or.inr (Or.inr (Or.inr h6)))
      · omega
  · rcases h3 k hk with h4 | h4
    · rcases hf k h4 with h5 | h5
      · exact Or.inl h5
      · right; have := h2.size; omega
    · right; have := hu.size; omega
  · rcases h4 k hk with h4 | h4
    · rcases hg k h4 with h5 | h5
      · exact Or.inl h5
      · right; have := h2.size; omega
    · right; have := hu.size; omega

theorem ReadX.ofConn {N : Nat} {F G : Nat → Prop} {I : List Int} {W : Wst} {w w1 : World} {c S s m cm wb made : Nat} {dr : Bool} {x : CX} {L : Texts} {u : Int} (hs : SrvT w S s m cm wb made dr L u) (dS : ¬ F S) (ds : ¬ F s) (dm : ¬ F m) (hb : WBy N F G I w S s m wb W) (hset : Settled x.id x W) (h : ConnX F w w1 c x) : ReadX F G I W w w1 c S s m cm wb made dr x L u := by
  obtain ⟨F2, dv, uv, ov, h1, h2, h3⟩ := h
  have hlt := hb.at_.lt
  refine ⟨F2, G, W, dv, uv, ov, h1, hs.keep h2 dS ds dm, ⟨hb.at_.keep h2 (fun k hk hk2 => hb.dF k hk2 hk), hb.wf, WStep.refl _ _, hset⟩, h2.mono (fun k _ e => Or.inl e), h3, fun k hk => Or.inl hk, fun k hk hk2 => ?_⟩
  rcases h3 k hk with h4 | h4
  · exact hb.dF k h4 hk2
  · have := hlt k hk2; omega

/-- What a call on a connection asks of where it lies. -/
structure Lies (N : Nat) (F : Nat → Prop) (w : World) (S s m : Nat) : Prop where
  dS : ¬ F S
  ds : ¬ F s
  dm : ¬ F m
  low : ∀ k, F k → N ≤ k
  ns : N ≤ s
  nm : N ≤ m
  nw : N ≤ w.heap.size
  lt : S < w.heap.size ∧ s < w.heap.size ∧ m < w.heap.size
  tb : Tb N w

theorem Lies.step {N : Nat} {F F1 G : Nat → Prop} {w w1 : World} {S s m : Nat} (h : Lies N F w S s m) (hG : ∀ k, G k → N ≤ k) (hu : Upd (fun k => F k ∨ k = s ∨ k = m ∨ G k) w w1) (hf : ∀ k, F1 k → F k ∨ (w.heap.size ≤ k ∧ k < w1.heap.size)) : Lies N F1 w1 S s m := by
  have hsz := hu.size
  have hl := h.lt
  have hnw := h.nw
  refine ⟨fun e => ?_, fun e => ?_, fun e => ?_, fun k hk => ?_, h.ns, h.nm, by omega, by omega, h.tb.keep (hu.below h.nw ?_)⟩
  · rcases hf _ e with h1 | h1
    · exact h.dS h1
    · omega
  · rcases hf _ e with h1 | h1
    · exact h.ds h1
    · omega
  · rcases hf _ e with h1 | h1
    · exact h.dm h1
    · omega
  · rcases hf k hk with h1 | h1
    · exact h.low k h1
    · omega
  · rintro k hk (h1 | rfl | rfl | h1)
    · have := h.low k h1; omega
    · have := h.ns; omega
    · have := h.nm; omega
    · have := hG k h1; omega
theorem Lies.same {N : Nat} {F : Nat → Prop} {w w1 : World} {S s m : Nat} (h : Lies N F w S s m) (hu : Same w w1) : Lies N F w1 S s m := h.step (G := fun _ => False) (fun _ h => h.elim) (hu.mono (fun _ _ h => h.elim)) (fun _ hk => Or.inl hk)

theorem WBy.step {N : Nat} {F F1 G G1 : Nat → Prop} {I : List Int} {W W1 : Wst} {w w1 : World} {S s m wb : Nat} (h : WBy N F G I w S s m wb W) (hl : Lies N F w S s m) (hat : WAt G1 w1 wb W1) (hwf : WF I W1) (hg : ∀ k, G1 k → G k ∨ (w.heap.size ≤ k ∧ k < w1.heap.size)) (hd : ∀ k, F1 k → ¬ G1 k) : WBy N F1 G1 I w1 S s m wb W1 := by
  have hlt := hl.lt
  have hnw := hl.nw
  refine ⟨hat, hwf, h.few, hd, fun e => ?_, fun e => ?_, fun e => ?_, fun k hk => ?_⟩
  · rcases hg _ e with h1 | h1
    · exact h.dS h1
    · omega
  · rcases hg _ e with h1 | h1
    · exact h.ds h1
    · omega
  · rcases hg _ e with h1 | h1
    · exact h.dm h1
    · omega
  · rcases hg k hk with h1 | h1
    · exact h.low k h1
    · omega
theorem WBy.same {N : Nat} {F G : Nat → Prop} {I : List Int} {W : Wst} {w w1 : World} {S s m wb : Nat} (h : WBy N F G I w S s m wb W) (hu : Same w w1) : WBy N F G I w1 S s m wb W := ⟨h.at_.keep hu (fun _ _ h => h), h.wf, h.few, h.dF, h.dS, h.ds, h.dm, h.low⟩

theorem Settled.unread {id : Int} {x : CX} {W : Wst} (h : Settled id x W) (l : List UInt8) : Settled id { x with unread := l } W := fun i hi => (h i hi).trans (by
  unfold CX.lim
  split <;> rfl)

set_option maxHeartbeats 1600000 in
set_option maxRecDepth 100000 in
theorem receive_any {N : Nat} {F G : Nat → Prop} {I : List Int} {W : Wst} {w : World} {c S s m cm wb made : Nat} {dr : Bool} {x : CX} {dv uv ov : Value} {L : Texts} {u : Int} (h : Hid (Cn F w c x dv uv ov)) (hs : Hid (SrvT w S s m cm wb made dr L u)) (hl : Hid (Lies N F w S s m)) (hi : Hid (CsI ⟨x, L, u⟩)) (hun : x.unread.length ≤ 300) (bs : ByteArray) (hb : bs.size ≤ 140737488355328) (hby : Hid (WBy N F G I w S s m wb W)) (hId : x.id ∈ I) (hset : Hid (Settled x.id x W)) :
    Calls Tryz.prog 48 #[.pointer (some ⟨S, 0, none⟩), .pointer (some ⟨c, 0, none⟩), .string bs] w fun e w' => e = .returned (.int .i64 (Cs.gets dr ⟨x, L, u⟩ bs.data.toList : Nat)) ∧ ReadX F G I W w w' c S s m cm wb made dr (Cs.got dr ⟨x, L, u⟩ bs.data.toList).cx (Cs.got dr ⟨x, L, u⟩ bs.data.toList).L (Cs.got dr ⟨x, L, u⟩ bs.data.toList).u := by
  have HL : Hid (bs.data.toList.length = bs.size) := by show _ = _; rw [Array.length_toList]; rfl
  have hle := ate_le dr bs.data.toList ⟨x, L, u⟩
  rw [HL.out] at hle
  have HG := hid (ate_goes dr bs.data.toList ⟨x, L, u⟩)
  have HS := hid (ate_stops dr bs.data.toList ⟨x, L, u⟩)
  have HI := hid (CsI.ate dr bs.data.toList ⟨x, L, u⟩ hi.out)
  have HU := hid (fun k => cs_reads_unread dr (bs.data.toList.take k) ⟨x, L, u⟩)
  have HIdd := hid (fun k => cs_reads_id dr (bs.data.toList.take k) ⟨x, L, u⟩)
  unfold Cs.gets Cs.got
  generalize hA : Cs.ate dr ⟨x, L, u⟩ bs.data.toList = A at *
  go_enter Tryz.func48, Tryz.ntmps48
  go_wp2_with fail
  go_loopw [7] (fun i wr => ∃ k : Nat, i = .int .i64 k ∧ k ≤ A ∧ Hid (ReadX F G I W w wr c S s m cm wb made dr (Cs.reads dr ⟨x, L, u⟩ (bs.data.toList.take k)).cx (Cs.reads dr ⟨x, L, u⟩ (bs.data.toList.take k)).L (Cs.reads dr ⟨x, L, u⟩ (bs.data.toList.take k)).u)) (fun i _ => bs.size - (intOf i).toNat)
  case atStart => exact ⟨0, rfl, Nat.zero_le _, F, G, W, dv, uv, ov, h.out, hs.out, ⟨hby.out.at_, hby.out.wf, WStep.refl _ _, hset.out⟩, Upd.refl _ _, fun k hk => Or.inl hk, fun k hk => Or.inl hk, hby.out.dF⟩
  case round =>
    obtain ⟨k, rfl, hk, hat⟩ := hrel
    obtain ⟨F1, G1, W1, dv1, uv1, ov1, h1, hs1, ⟨q1, q2, q3, q4⟩, h2, h3, h4, h5⟩ := hat.out
    clear hat
    have HIk := hid (HIdd.out k)
    have HZ := hid (HI.out k hk)
    have HN : Hid (∀ hlt : k < bs.size, Cs.reads dr ⟨x, L, u⟩ (bs.data.toList.take (k + 1)) = (Cs.reads dr ⟨x, L, u⟩ (bs.data.toList.take k)).read dr bs[k]) := fun hlt => cs_reads_succ dr _ bs k hlt
    have HUk := hid (HU.out k)
    have HGk := hid (HG.out k)
    have HSk : Hid (k = A → k < bs.size → ¬ (Cs.reads dr ⟨x, L, u⟩ (bs.data.toList.take k)).goes) := by
      intro e hlt; rw [e]; exact HS.out (by rw [HL.out]; omega)
    have HEq : Hid (k = A → Cs.reads dr ⟨x, L, u⟩ (bs.data.toList.take k) = Cs.reads dr ⟨x, L, u⟩ (bs.data.toList.take A)) := fun e => by rw [e]
    generalize hz : Cs.reads dr ⟨x, L, u⟩ (bs.data.toList.take k) = z at *
    have H1 := hid h1
    have HS1 := hid hs1
    have H2 := hid h2
    have H3 := hid h3
    have HL1 := hid (hl.out.step hby.out.low h2 h3)
    have HB1 := hid (hby.out.step hl.out q1 q2 h4 h5)
    have H4 := hid h4
    have HQ3 := hid q3
    have HQ4 := hid q4
    have hzo := HZ.out.out
    clear h1 hs1 h2 h3 h4 h5 q1 q2 q3 q4 hz HU HG HS HI h hs
    by_cases hlt : k < A
    · have hls : k < bs.size := by omega
      have hE := HGk.out hlt
      have HR := hid (reads_any H1 (by omega))
      have HD : Hid (decide (z.cx.kind ≠ 2 ∧ z.cx.out.length < 250) = true) := decide_eq_true hE
      rw [HD.out] at HR
      go_wp2_with fail
      refine HR.out.mono ?_
      rintro e w1 ⟨rfl, hu1⟩
      have HC1 := hid (H1.out.keep hu1 (fun _ _ h => h))
      have HT1 := hid (HS1.out.keep hu1 (fun h => h) (fun h => h) (fun h => h))
      have HL2 := HL1.out.same hu1
      have HB2 := hid (HB1.out.same hu1)
      have hzI : z.cx.id ∈ I := by rw [HIk.out]; exact hId
      have HU1 := hid hu1
      clear hu1
      have HRd := hid (sread_any (N := N) HC1 HT1 HL2.dS HL2.ds HL2.dm (hid HZ.out.ci) (hid HZ.out.ti) hE.1 bs[k] (by omega) (hid HL2.tb) (hid ⟨HL2.low, HL2.ns, HL2.nm, HL2.nw⟩) HB2 hzI)
      clear HL2
      go_wp2_with fail
      refine HRd.out.mono ?_
      rintro e w2 ⟨rfl, hr2⟩
      have HE : Hid (ReadX F G I W w w2 c S s m cm wb made dr (Cs.reads dr ⟨x, L, u⟩ (bs.data.toList.take (k + 1))).cx (Cs.reads dr ⟨x, L, u⟩ (bs.data.toList.take (k + 1))).L (Cs.reads dr ⟨x, L, u⟩ (bs.data.toList.take (k + 1))).u) := by
        show ReadX _ _ _ _ _ _ _ _ _ _ _ _ _ _ _ _ _
        rw [HN.out hls]
        have hid' : ((z.read dr bs[k]).cx).id = z.cx.id := by
          show (z.cx.next z.L z.u dr bs[k]).id = _
          unfold CX.next
          split <;> rfl
        exact ReadX.trans H2.out H3.out H4.out (by rw [hid']; exact HQ3.out) (ReadX.trans (HU1.out.mono (fun _ _ h => h.elim)) (fun k hk => Or.inl hk) (fun k hk => Or.inl hk) (WStep.refl _ _) hr2)
      clear hr2
      go_wp2
      exact ⟨⟨k + 1, by go_num, by omega, HE⟩, by simp [intOf]; omega⟩
    · have hkA : k = A := by omega
      subst hkA
      have HX : Hid ((bs.extract k bs.size).data.toList = bs.data.toList.drop k) := by
        show _ = _
        simp only [ByteArray.data_extract, Array.toList_extract]
        rw [List.extract_eq_take_drop, List.take_of_length_le]
        rw [List.length_drop, HL.out]
        omega
      have hxs : (bs.extract k bs.size).size ≤ 140737488355328 := by
        have := congrArg List.length HX.out
        rw [List.length_drop, HL.out] at this
        have e2 : (bs.extract k bs.size).data.toList.length = (bs.extract k bs.size).size := by rw [Array.length_toList]; rfl
        omega
      have hzu : z.cx.unread.length ≤ 300 := by rw [HUk.out]; exact hun
      have HP : Hid (∀ X, Same wr X → Calls Tryz.prog 70 #[.pointer (some ⟨c, 0, none⟩), .string (bs.extract k bs.size)] X fun e w' => e = .returned (.int .i64 ((Cs.reads dr ⟨x, L, u⟩ (bs.data.toList.take k)).admits (bs.data.toList.drop k) : Nat)) ∧ ReadX F G I W w w' c S s m cm wb made dr ((Cs.reads dr ⟨x, L, u⟩ (bs.data.toList.take k)).admit (bs.data.toList.drop k)).cx ((Cs.reads dr ⟨x, L, u⟩ (bs.data.toList.take k)).admit (bs.data.toList.drop k)).L ((Cs.reads dr ⟨x, L, u⟩ (bs.data.toList.take k)).admit (bs.data.toList.drop k)).u) := by
        intro X hW
        rw [← HEq.out rfl]
        refine (putAside_any (hid (H1.out.keep hW (fun _ _ h => h))) hzu (bs.extract k bs.size) hxs).mono ?_
        rw [HX.out]
        rintro e w2 ⟨rfl, hc⟩
        have HLW := HL1.out.same hW
        have hidd : (if z.cx.kind = 2 then z.cx else { z.cx with unread := z.cx.unread ++ (bs.data.toList.drop k).take (300 - z.cx.unread.length) }).id = z.cx.id := by split <;> rfl
        have hsett : Settled (if z.cx.kind = 2 then z.cx else { z.cx with unread := z.cx.unread ++ (bs.data.toList.drop k).take (300 - z.cx.unread.length) }).id (if z.cx.kind = 2 then z.cx else { z.cx with unread := z.cx.unread ++ (bs.data.toList.drop k).take (300 - z.cx.unread.length) }) W1 := by
          rw [hidd]
          split
          · exact HQ4.out
          · exact HQ4.out.unread _
        have hr := ReadX.trans H2.out H3.out H4.out (by rw [hidd]; exact HQ3.out) (ReadX.trans (hW.mono (fun _ _ h => h.elim)) (fun k hk => Or.inl hk) (fun k hk => Or.inl hk) (WStep.refl _ _) (ReadX.ofConn (HS1.out.keep hW (fun h => h) (fun h => h) (fun h => h)) HLW.dS HLW.ds HLW.dm (HB1.out.same hW) hsett hc))
        refine ⟨rfl, ?_⟩
        unfold Cs.admit
        split
        · rename_i h2; rw [if_pos h2] at hr; exact hr
        · rename_i h2; rw [if_neg h2] at hr; exact hr
      have hadm : (Cs.reads dr ⟨x, L, u⟩ (bs.data.toList.take k)).admits (bs.data.toList.drop k) ≤ 300 := by
        unfold Cs.admits
        split <;> omega
      generalize hnq : (Cs.reads dr ⟨x, L, u⟩ (bs.data.toList.take k)).admits (bs.data.toList.drop k) = n at *
      generalize hyq : (Cs.reads dr ⟨x, L, u⟩ (bs.data.toList.take k)).admit (bs.data.toList.drop k) = y at *
      have HNQ := hid hnq
      have HYQ := hid hyq
      clear hnq hyq
      by_cases hsz : k < bs.size
      · have hE := HSk.out rfl hsz
        have HR := hid (reads_any H1 (by omega))
        have HD : Hid (decide (z.cx.kind ≠ 2 ∧ z.cx.out.length < 250) = false) := decide_eq_false hE
        rw [HD.out] at HR
        clear HZ HN HUk HGk HSk HEq hE
        go_wp2_with fail
        refine HR.out.mono ?_
        rintro e w1 ⟨rfl, hu1⟩
        have HP1 := hid (HP.out w1 hu1)
        clear hu1
        go_wp2_with fail
        refine HP1.out.mono ?_
        rintro e w2 ⟨rfl, hr⟩
        have HE := hid hr
        clear hr
        go_wp2
        go_ret
        obtain rfl := HNQ.out
        obtain rfl := HYQ.out
        exact ⟨by first | rfl | exact ret_int (by simp), HE.out⟩
      · have HP1 := hid (HP.out wr (Upd.refl _ _))
        clear HZ HN HUk HGk HSk HEq
        go_wp2_with fail
        refine HP1.out.mono ?_
        rintro e w2 ⟨rfl, hr⟩
        have HE := hid hr
        clear hr
        go_wp2
        go_ret
        obtain rfl := HNQ.out
        obtain rfl := HYQ.out
        exact ⟨by first | rfl | exact ret_int (by simp), HE.out⟩

end Go.Proofs.YtiiapfkcmdkkoaaGreatDoor
