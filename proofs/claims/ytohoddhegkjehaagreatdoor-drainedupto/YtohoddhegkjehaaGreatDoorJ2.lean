import Derived.Test.YtohoddhegkjehaaGreatDoorI3
/-
  What 'all' asks of the machine: takes until nothing waits; how much is answered at most.
-/
namespace Go.Proofs.YtohoddhegkjehaaGreatDoor
open Go.RowKit Go.MapKept

theorem take_idle (dr : Bool) (y : Cs) (n : Nat) (h1 : y.cx.out = []) (h2 : y.cx.unread = []) : y.take dr n = y := by
  obtain ⟨⟨k, s, u, o⟩, L, t⟩ := y
  simp only at h1 h2
  subst h1 h2
  unfold Cs.take Cs.got Cs.admit
  show (if k = 2 then _ else _) = _
  split <;> simp [Cs.ate, Cs.reads]
theorem core_idle {y : Cs} (h1 : y.cx.out = []) (h2 : y.cx.unread = []) : y.core = y := by
  obtain ⟨⟨k, s, u, o⟩, L, t⟩ := y
  simp only at h1 h2
  subst h1 h2
  rfl
theorem rest_idle (dr : Bool) {y : Cs} (m : List UInt8) (h1 : y.cx.out = []) (h2 : y.cx.unread = []) : y.rest dr m = ((y.run dr m).1.core, (y.run dr m).2) := by
  unfold Cs.rest
  rw [core_idle h1 h2, h1, h2]
  rfl

theorem CsI.bare {x : Cs} (h : CsI x) : CsI x.bare := ⟨⟨h.ci.rd, h.ci.tag, h.ci.kind⟩, h.ti, by show ([] : List UInt8).length ≤ 449; simp⟩
theorem run_len (dr : Bool) : ∀ (l : List UInt8) (x : Cs), CsI x → x.cx.out = [] → (x.run dr l).2.length ≤ 200 * l.length
  | [], _, _, _ => by simp [Cs.run]
  | b :: l, x, h, ho => by
    simp only [Cs.run]
    by_cases h2 : x.cx.kind = 2
    · rw [if_pos h2]; simp
    · rw [if_neg h2]
      have hg : x.goes := ⟨h2, by rw [ho]; decide⟩
      have ih := run_len dr l (x.read dr b).bare (h.read dr hg b).bare rfl
      obtain ⟨t, h3, h4⟩ := next_out2 (x := x.cx) h.ti dr b
      have h5 : (x.read dr b).cx.out = x.cx.out ++ t := h3
      rw [h5, ho, List.nil_append, List.length_append, List.length_cons]
      omega

theorem after_after (x : Xs) (id : Int) (a b : Cs) : (x.after id a).after id b = x.after id b := by
  unfold Xs.after
  simp only [kset_kset]
theorem after_taken (x : Xs) (id : Int) (a b : Cs) : (x.after id a).taken id b = x.taken id b := by
  unfold Xs.taken
  rw [after_after]
theorem taken_open (x : Xs) (id : Int) (z : Cs) (h : z.cx.kind ≠ 2) : x.taken id z = x.after id z := by
  unfold Xs.taken
  rw [if_neg (fun e => h e.1)]
theorem taken_full (x : Xs) (id : Int) (z : Cs) (h : z.cx.out ≠ []) : x.taken id z = x.after id z := by
  unfold Xs.taken
  rw [if_neg (fun e => h e.2)]
theorem aget_none_of {K : Ks} {id : Int} (h : ∀ e ∈ K, e.1 ≠ id) : aget K id = none := by
  cases hg : aget K id with
  | none => rfl
  | some q => exact absurd rfl (h _ (aget_mem hg))
theorem aget_adel {K : Ks} (hn : (K.map (·.1)).Nodup) (id : Int) : aget (adel K id) id = none := by
  apply aget_none_of
  induction K with
  | nil => intro e he; cases he
  | cons p K ih =>
    rw [List.map_cons, List.nodup_cons] at hn
    intro e he
    unfold adel aidx at he
    rw [List.findIdx_cons] at he
    by_cases hp : p.1 = id
    · have e1 : (p.1 == id) = true := by simpa using hp
      rw [e1] at he
      have he' : e ∈ K := by simpa using he
      intro h1
      exact hn.1 (List.mem_map.2 ⟨e, he', by rw [h1, hp]⟩)
    · have e1 : (p.1 == id) = false := by simpa using hp
      rw [e1] at he
      have he' : e ∈ p :: adel K id := by unfold adel aidx; simpa using he
      rcases List.mem_cons.1 he' with rfl | h1
      · exact hp
      · exact ih hn.2 e h1
theorem aget_gone {x : Xs} (hn : (x.K.map (·.1)).Nodup) (id : Int) : aget (x.gone id).K id = none := aget_adel hn id
theorem aget_after {x : Xs} {id : Int} {c : Nat} {o : CX} (h : aget x.K id = some (c, o)) (z : Cs) : aget (x.after id z).K id = some (c, z.cx) := aget_kset x.K id z.cx h
theorem aget_taken {x : Xs} (hn : (x.K.map (·.1)).Nodup) {id : Int} {c : Nat} {o : CX} (h : aget x.K id = some (c, o)) (z : Cs) : aget (x.taken id z).K id = if z.cx.kind = 2 ∧ z.cx.out = [] then none else some (c, z.cx) := by
  unfold Xs.taken
  split
  · exact aget_gone (x := x.after id z) (by show ((kset x.K id z.cx).map (·.1)).Nodup; rw [kset_keys]; exact hn) id
  · exact aget_after h z

theorem gets_le (dr : Bool) (x : Cs) (l : List UInt8) : x.gets dr l ≤ l.length := by
  have h := ate_le dr l x
  unfold Cs.gets Cs.admits
  split
  · omega
  · rw [List.length_drop]; omega
theorem gets_pos (dr : Bool) (x : Cs) (l : List UInt8) (hl : l ≠ []) (hg : x.goes) : 1 ≤ x.gets dr l := by
  have := ate_pos dr x l hl hg
  unfold Cs.gets
  omega

/-- A row of ints that was there at w, below B. -/
inductive IntsAt (B : Nat) (w : World) : Value → List Int → Prop where
  | none : IntsAt B w (.slice none 0 0) []
  | some (a : Addr) (cap : Nat) (zs : List Int) (hb : 0 < zs.length → a.block < B) (hc : ∀ i z, zs[i]? = some z → w.cell? (a.add i) = some (.int .i64 z)) : IntsAt B w (.slice (some a) zs.length cap) zs
theorem block_add' (a : Addr) (n : Nat) : (a.add n).block = a.block := by unfold Addr.add; split <;> rfl
theorem IntsAt.keep {B : Nat} {w w' : World} {v : Value} {zs : List Int} (h : IntsAt B w v zs) (hb : Below B w w') : IntsAt B w' v zs := by
  cases h with
  | none => exact .none
  | some a cap zs hlt hc => exact .some a cap zs hlt (fun i z hz => (hb.cell (by rw [block_add']; exact hlt (Nat.lt_of_le_of_lt (Nat.zero_le _) (List.getElem?_eq_some_iff.1 hz).1))).trans (hc i z hz))

end Go.Proofs.YtohoddhegkjehaaGreatDoor
