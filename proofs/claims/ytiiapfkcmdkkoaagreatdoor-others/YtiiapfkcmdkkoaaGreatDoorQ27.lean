import Derived.Test.YtiiapfkcmdkkoaaGreatDoorQ26
import Derived.LoopN
import Derived.Deep.LoopGhost
import Derived.Deep.DeepCutAuto
/-
  What 'all' asks of the machine: takes until nothing waits; how much is answered at most.
-/
namespace Go.Proofs.YtiiapfkcmdkkoaaGreatDoor
open Go.RowKit Go.MapKept

theorem take_idle (dr : Bool) (y : Cs) (n : Nat) (h1 : y.cx.out = []) (h2 : y.cx.unread = []) : y.take dr n = y := by
  obtain ⟨⟨k, s, u, o⟩, L, t⟩ := y
  simp only at h1 h2
  subst h1 h2
  unfold Cs.take Cs.got Cs.admit
  show (if k = 2 then _ else _) = _
  split <;> simp [Cs.ate, Cs.reads]
theorem core_idle {y : Cs} (h1 : y.cx.out = []) (h2 : y.cx.unread = []) : y.core = y := by
  obtain ⟨⟨k, s, u, o⟩, L, t⟩ := y
  simp only at h1 h2
  subst h1 h2
  rfl
theorem rest_idle (dr : Bool) {y : Cs} (m : List UInt8) (h1 : y.cx.out = []) (h2 : y.cx.unread = []) : y.rest dr m = ((y.run dr m).1.core, (y.run dr m).2) := by
  unfold Cs.rest
  rw [core_idle h1 h2, h1, h2]
  rfl

theorem CsI.bare {x : Cs} (h : CsI x) : CsI x.bare := ⟨⟨h.ci.rd, h.ci.tag, h.ci.kind⟩, h.ti, by show ([] : List UInt8).length ≤ 449; simp⟩
theorem run_len (dr : Bool) : ∀ (l : List UInt8) (x : Cs), CsI x → x.cx.out = [] → (x.run dr l).2.length ≤ 200 * l.length
  | [], _, _, _ => by simp [Cs.run]
  | b :: l, x, h, ho => by
    simp only [Cs.run]
    by_cases h2 : x.cx.kind = 2
    · rw [if_pos h2]; simp
    · rw [if_neg h2]
      have hg : x.goes := ⟨h2, by rw [ho]; decide⟩
      have ih := run_len dr l (x.read dr b).bare (h.read dr hg b).bare rfl
      obtain ⟨t, h3, h4⟩ := next_out2 (x := x.cx) h.ti dr b
      have h5 : (x.read dr b).cx.out = x.cx.out ++ t := h3
      rw [h5, ho, List.nil_append, List.length_append, List.length_cons]
      omega

theorem after_after (x : Xs) (id : Int) (a b : Cs) : (x.after id a).after id b = x.after id b := by
  unfold Xs.after
  simp only [kset_kset]
theorem after_taken (x : Xs) (id : Int) (a b : Cs) : (x.after id a).taken id b = x.taken id b := by
  unfold Xs.taken
  rw [after_after]
theorem taken_open (x : Xs) (id : Int) (z : Cs) (h : z.cx.kind ≠ 2) : x.taken id z = x.after id z := by
  unfold Xs.taken
  rw [if_neg (fun e => h e.1)]
theorem taken_full (x : Xs) (id : Int) (z : Cs) (h : z.cx.out ≠ []) : x.taken id z = x.after id z := by
  unfold Xs.taken
  rw [if_neg (fun e => h e.2)]
theorem aget_none_of {K : Ks} {id : Int} (h : ∀ e ∈ K, e.1 ≠ id) : aget K id = none := by
  cases hg : aget K id with
  | none => rfl
  | some q => exact absurd rfl (h _ (aget_mem hg))
theorem aget_adelK {K : Ks} (hn : (K.map (·.1)).Nodup) (id : Int) : aget (adel K id) id = none := by
  apply aget_none_of
  induction K with
  | nil => intro e he; cases he
  | cons p K ih =>
    rw [List.map_cons, List.nodup_cons] at hn
    intro e he
    unfold adel aidx at he
    rw [List.findIdx_cons] at he
    by_cases hp : p.1 = id
    · have e1 : (p.1 == id) = true := by simpa using hp
      rw [e1] at he
      have he' : e ∈ K := by simpa using he
      intro h1
      exact hn.1 (List.mem_map.2 ⟨e, he', by rw [h1, hp]⟩)
    · have e1 : (p.1 == id) = false := by simpa using hp
      rw [e1] at he
      have he' : e ∈ p :: adel K id := by unfold adel aidx; simpa using he
      rcases List.mem_cons.1 he' with rfl | h1
      · exact hp
      · exact ih hn.2 e h1
theorem aget_gone {x : Xs} (hn : (x.K.map (·.1)).Nodup) (id : Int) : aget (x.gone id).K id = none := aget_adelK hn id
theorem aget_after {x : Xs} {id : Int} {c : Nat} {o : CX} (h : aget x.K id = some (c, o)) (z : Cs) : aget (x.after id z).K id = some (c, z.cx) := aget_kset x.K id z.cx h
theorem aget_taken {x : Xs} (hn : (x.K.map (·.1)).Nodup) {id : Int} {c : Nat} {o : CX} (h : aget x.K id = some (c, o)) (z : Cs) : aget (x.taken id z).K id = if z.cx.kind = 2 ∧ z.cx.out = [] then none else some (c, z.cx) := by
  unfold Xs.taken
  split
  · exact aget_gone (x := x.after id z) (by show ((kset x.K id z.cx).map (·.1)).Nodup; rw [kset_keys]; exact hn) id
  · exact aget_after h z

theorem gets_le (dr : Bool) (x : Cs) (l : List UInt8) : x.gets dr l ≤ l.length := by
  have h := ate_le dr l x
  unfold Cs.gets Cs.admits
  split
  · omega
  · rw [List.length_drop]; omega
theorem gets_pos (dr : Bool) (x : Cs) (l : List UInt8) (hl : l ≠ []) (hg : x.goes) : 1 ≤ x.gets dr l := by
  have := ate_pos dr x l hl hg
  unfold Cs.gets
  omega

/-- A row of ints that was there at w, below B. -/
inductive IntsAt (B : Nat) (w : World) : Value → List Int → Prop where
  | none : IntsAt B w (.slice none 0 0) []
  | some (a : Addr) (cap : Nat) (zs : List Int) (hb : 0 < zs.length → a.block < B) (hc : ∀ i z, zs[i]? = some z → w.cell? (a.add i) = some (.int .i64 z)) : IntsAt B w (.slice (some a) zs.length cap) zs
theorem block_add' (a : Addr) (n : Nat) : (a.add n).block = a.block := by unfold Addr.add; split <;> rfl
theorem IntsAt.keep {B : Nat} {w w' : World} {v : Value} {zs : List Int} (h : IntsAt B w v zs) (hb : Below B w w') : IntsAt B w' v zs := by
  cases h with
  | none => exact .none
  | some a cap zs hlt hc => exact .some a cap zs hlt (fun i z hz => (hb.cell (by rw [block_add']; exact hlt (Nat.lt_of_le_of_lt (Nat.zero_le _) (List.getElem?_eq_some_iff.1 hz).1))).trans (hc i z hz))

end Go.Proofs.YtiiapfkcmdkkoaaGreatDoor

/-
  The law's own function 'all': all bytes come over a connection, in pieces.
-/
namespace Go.Proofs.YtiiapfkcmdkkoaaGreatDoor
open Go.RowKit Go.MapKept

theorem ba_app' (a b : List UInt8) : ((⟨a.toArray⟩ : ByteArray) ++ ⟨b.toArray⟩) = ⟨(a ++ b).toArray⟩ := by
  apply ByteArray.ext
  rw [ByteArray.data_append]
  simp

/-- What holds ahead of a round: k bytes were taken, 'out' was answered. -/
structure AllAt (N : Nat) (F : Nat → Prop) (w wr : World) (S : Nat) (p : Ps) (x : Xs) (id : Int) (z0 : Cs) (bs : List UInt8) (k : Nat) (out : List UInt8) : Prop where
  st : ∃ z : Cs, SvX N F w wr S p (x.after id z) ∧ z.cx.kind ≠ 2 ∧ z.cx.out = [] ∧ z.cx.unread = [] ∧ (z.run x.dr (bs.drop k)).1.core = (z0.run x.dr bs).1.core ∧ out ++ (z.run x.dr (bs.drop k)).2 = (z0.run x.dr bs).2

/-- What holds between two takes: y, the connection ahead of the last one, of which t was taken; m is still to come. -/
structure TakeAt (N : Nat) (F : Nat → Prop) (w wr : World) (S : Nat) (p : Ps) (x : Xs) (id : Int) (z0 : Cs) (bs m : List UInt8) (g : Nat) (t out : List UInt8) : Prop where
  st : ∃ y : Cs, SvX N F w wr S p (x.taken id (y.take x.dr 1073741824)) ∧ y.Fits ∧ CsI y ∧ t = y.cx.out ∧ y.left = g ∧ (y.rest x.dr m).1 = (z0.run x.dr bs).1.core ∧ out ++ (y.rest x.dr m).2 = (z0.run x.dr bs).2

theorem SvX.below {N : Nat} {F : Nat → Prop} {w w' : World} {S : Nat} {p : Ps} {x : Xs} (h : SvX N F w w' S p x) (hF : ∀ k, F k → N ≤ k) (hN : N ≤ w.heap.size) : Below N w w' := by
  obtain ⟨F', Fs', h1, h2, h3⟩ := h
  exact h2.below hN (fun k hk e => by have := hF k e; omega)

/-- A call on what a call left. -/
theorem SvX.call {N : Nat} {F : Nat → Prop} {w w1 : World} {S : Nat} {p : Ps} {x : Xs} (h : SvX N F w w1 S p x) {f : Nat} {vs : Array Value} {R : Ending → World → Prop} (hc : ∀ F' Fs', Sv N F' Fs' w1 S p x → Calls Tryz.prog f vs w1 fun e w2 => ∃ y, SvX N F' w1 w2 S p y ∧ (SvX N F w w2 S p y → R e w2)) : Calls Tryz.prog f vs w1 R := by
  obtain ⟨F', Fs', h1, h2, h3⟩ := h
  refine (hc F' Fs' h1).mono ?_
  rintro e w2 ⟨y, hy, hR⟩
  exact hR (SvX.trans h2 h3 hy)

/-- Behind Data: what is still to come. -/
structure DataAt (N : Nat) (F : Nat → Prop) (w wr : World) (S : Nat) (p : Ps) (x : Xs) (id : Int) (z0 : Cs) (bs m : List UInt8) (out : List UInt8) : Prop where
  st : ∃ y : Cs, SvX N F w wr S p (x.after id y) ∧ y.Fits ∧ CsI y ∧ (y.rest x.dr m).1 = (z0.run x.dr bs).1.core ∧ out ++ (y.rest x.dr m).2 = (z0.run x.dr bs).2

section
variable {N : Nat} {F : Nat → Prop} {w wr : World} {S : Nat} {p : Ps} {x : Xs} {id : Int} {c : Nat} {cx : CX} {z0 : Cs} {bs m out t : List UInt8} {k g : Nat}

theorem SvX.csi (h : SvX N F w wr S p (x.after id z0)) (hg : aget x.K id = some (c, cx)) : CsI z0 ∧ z0.Fits := by
  obtain ⟨F', Fs', h1, h2, h3⟩ := h
  have he := aget_mem (aget_after hg z0)
  have hk := h1.ki _ he
  exact ⟨⟨hk.ci, h1.ti, hk.out⟩, hk.un, hk.fit⟩

theorem AllAt.data (h : AllAt N F w wr S p x id z0 bs k out) (hg : aget x.K id = some (c, cx)) (piece : ByteArray) (nn : Nat) (hp : piece.data.toList = (bs.drop k).take nn) (hn : 1 ≤ nn) (hk : k + nn ≤ bs.length) (hb : nn ≤ 140737488355328) :
    Calls Tryz.prog 19 #[.pointer (some ⟨S, 0, none⟩), .int .i64 id, .string piece] wr fun e w1 => ∃ took : Nat, e = .returned (.int .i64 took) ∧ 1 ≤ took ∧ took ≤ nn ∧ DataAt N F w w1 S p x id z0 bs (bs.drop (k + took)) out := by
  obtain ⟨z, hs, h2, h3, h4, h5, h6⟩ := h.st
  have hcs := hs.csi hg
  refine hs.call (fun F' Fs' hv => ?_)
  have hlen : piece.data.toList.length = nn := by rw [hp, List.length_take, List.length_drop]; omega
  have hsz : piece.size = nn := by rw [← hlen, Array.length_toList]; rfl
  refine (data_any (hid hv) (hid (aget_after hg z)) piece (by omega)).mono ?_
  rintro e w1 ⟨rfl, hd⟩
  rw [after_after] at hd
  refine ⟨_, hd, fun hd' => ?_⟩
  have e1 : (⟨z.cx, (x.after id z).L, (x.after id z).u⟩ : Cs) = z := rfl
  have e2 : (x.after id z).dr = x.dr := rfl
  rw [e1, e2] at hd' ⊢
  have hne : piece.data.toList ≠ [] := fun e => by rw [e] at hlen; simp at hlen; omega
  have hgo : z.goes := ⟨h2, by rw [h3]; decide⟩
  have ht1 := gets_pos x.dr z _ hne hgo
  have ht2 := gets_le x.dr z piece.data.toList
  rw [hlen] at ht2
  refine ⟨_, rfl, ht1, ht2, ⟨_, hd', fits_got x.dr z _ h4, hcs.1.got x.dr _, ?_, ?_⟩⟩
  all_goals
    have hsplit : bs.drop (k + z.gets x.dr piece.data.toList) = piece.data.toList.drop (z.gets x.dr piece.data.toList) ++ bs.drop (k + nn) := by
      generalize z.gets x.dr piece.data.toList = tk at ht2 ⊢
      rw [hp]
      have q1 : bs.drop (k + nn) = (bs.drop k).drop nn := by rw [List.drop_drop]
      have q2 : bs.drop (k + tk) = (bs.drop k).drop tk := by rw [List.drop_drop]
      rw [q1, q2]
      generalize bs.drop k = q
      conv => lhs; rw [← List.take_append_drop nn q]
      rw [List.drop_append]
      by_cases hql : nn ≤ q.length
      · have : (q.take nn).length = nn := by rw [List.length_take]; omega
        rw [this, Nat.sub_eq_zero_of_le ht2]; rfl
      · have q3 : q.drop nn = [] := List.drop_eq_nil_of_le (by omega)
        rw [q3]; simp
    have hwhole : piece.data.toList ++ bs.drop (k + nn) = bs.drop k := by
      rw [hp, ← List.drop_drop, List.take_append_drop]
    rw [hsplit, rest_got x.dr z _ _ h4, hwhole, rest_idle x.dr _ h3 h4]
  · exact h5
  · exact h6

theorem DataAt.take (h : DataAt N F w wr S p x id z0 bs m out) (hg : aget x.K id = some (c, cx)) :
    Calls Tryz.prog 22 #[.pointer (some ⟨S, 0, none⟩), .int .i64 id, .int .i64 1073741824] wr fun e w1 => ∃ (t : List UInt8) (g : Nat), e = .returned (.string ⟨t.toArray⟩) ∧ TakeAt N F w w1 S p x id z0 bs m g t out := by
  obtain ⟨y, hs, h2, h3, h4, h5⟩ := h.st
  refine hs.call (fun F' Fs' hv => ?_)
  refine (Take_open (hid hv) (hid (aget_after hg y)) 1073741824 (by omega)).mono ?_
  rintro e w1 ⟨rfl, hd⟩
  rw [after_taken] at hd
  have e1 : (⟨y.cx, (x.after id y).L, (x.after id y).u⟩ : Cs) = y := rfl
  have e2 : (x.after id y).dr = x.dr := rfl
  rw [e1, e2] at hd
  have ht : y.cx.out.take 1073741824 = y.cx.out := List.take_of_length_le (by have := h3.out; omega)
  rw [ht]
  exact ⟨_, hd, fun hd' => ⟨_, _, rfl, ⟨y, hd', h2, h3, rfl, rfl, h4, h5⟩⟩⟩

theorem TakeAt.take (h : TakeAt N F w wr S p x id z0 bs m g t out) (hg : aget x.K id = some (c, cx)) (hnd : (x.K.map (·.1)).Nodup) (ht : t ≠ []) :
    Calls Tryz.prog 22 #[.pointer (some ⟨S, 0, none⟩), .int .i64 id, .int .i64 1073741824] wr fun e w1 => ∃ (t' : List UInt8) (g' : Nat), g' < g ∧ e = .returned (.string ⟨t'.toArray⟩) ∧ TakeAt N F w w1 S p x id z0 bs m g' t' (out ++ t) := by
  obtain ⟨y, hs, h2, h3, rfl, rfl, h4, h5⟩ := h.st
  have hol : y.cx.out.length ≤ 1073741824 := by have := h3.out; omega
  have hleft := left_take x.dr y 1073741824 hol h2 ht
  have hrest := rest_take x.dr y 1073741824 m hol h2
  have hfit := fits_take x.dr y 1073741824
  have hcsi := h3.take x.dr 1073741824
  rw [hrest] at h4 h5
  simp only at h4 h5
  rw [← List.append_assoc] at h5
  generalize y.take x.dr 1073741824 = y' at *
  by_cases hd : y'.cx.kind = 2 ∧ y'.cx.out = []
  · have hun : y'.cx.unread = [] := by
      cases hq : y'.cx.unread with
      | nil => rfl
      | cons a l => exact absurd hd.1 (hfit.2 (by rw [hq]; simp)).1
    have hx : x.taken id (y'.take x.dr 1073741824) = x.taken id y' := by rw [take_idle x.dr y' _ hd.2 hun]
    refine hs.call (fun F' Fs' hv => ?_)
    refine (Take_none (hid hv) (hid (by rw [aget_taken hnd hg]; rw [if_pos hd])) 1073741824).mono ?_
    rintro e w1 ⟨rfl, hu⟩
    refine ⟨_, hv.svx hu, fun hd' => ⟨[], _, hleft, rfl, ⟨y', by rw [hx]; exact hd', hfit, hcsi, hd.2.symm, rfl, h4, h5⟩⟩⟩
  · have hx : x.taken id y' = x.after id y' := by unfold Xs.taken; rw [if_neg hd]
    rw [hx] at hs
    refine hs.call (fun F' Fs' hv => ?_)
    refine (Take_open (hid hv) (hid (aget_after hg y')) 1073741824 (by omega)).mono ?_
    rintro e w1 ⟨rfl, hq⟩
    rw [after_taken] at hq
    have e1 : (⟨y'.cx, (x.after id y').L, (x.after id y').u⟩ : Cs) = y' := rfl
    have e2 : (x.after id y').dr = x.dr := rfl
    rw [e1, e2] at hq
    have ht' : y'.cx.out.take 1073741824 = y'.cx.out := List.take_of_length_le (by have := hcsi.out; omega)
    rw [ht']
    exact ⟨_, hq, fun hd' => ⟨_, _, hleft, rfl, ⟨y', hd', hfit, hcsi, rfl, rfl, h4, h5⟩⟩⟩

/-- The end. -/
def AllEnd (N : Nat) (F : Nat → Prop) (w w' : World) (S : Nat) (p : Ps) (x : Xs) (id : Int) (z0 : Cs) (bs out : List UInt8) : Prop := SvX N F w w' S p (x.taken id (z0.run x.dr bs).1.core) ∧ out = (z0.run x.dr bs).2

theorem TakeAt.opened (h : TakeAt N F w wr S p x id z0 bs (bs.drop k) g [] out) (hg : aget x.K id = some (c, cx)) (hnd : (x.K.map (·.1)).Nodup) :
    Calls Tryz.prog 16 #[.pointer (some ⟨S, 0, none⟩), .int .i64 id] wr fun e w1 => ∃ op : Bool, e = .returned (.bool op) ∧ (op = true → AllAt N F w w1 S p x id z0 bs k out) ∧ (op = false → AllEnd N F w w1 S p x id z0 bs out ∧ (z0.run x.dr bs).1.cx.kind = 2) := by
  obtain ⟨y, hs, h2, h3, h3', rfl, h4, h5⟩ := h.st
  have ho : y.cx.out = [] := h3'.symm
  have hun : y.cx.unread = [] := by
    cases hq : y.cx.unread with
    | nil => rfl
    | cons a l => have := (h2.2 (by rw [hq]; simp)).2; rw [ho] at this; simp at this
  rw [take_idle x.dr y _ ho hun] at hs
  rw [rest_idle x.dr _ ho hun] at h4 h5
  simp only at h4 h5
  refine hs.call (fun F' Fs' hv => ?_)
  refine (open_any (hid hv) id).mono ?_
  rintro e w1 ⟨rfl, hu⟩
  refine ⟨_, hv.svx hu, fun hd' => ⟨_, rfl, ?_, ?_⟩⟩
  · intro hop
    rw [aget_taken hnd hg] at hop
    have hk : y.cx.kind ≠ 2 := fun e => by rw [if_pos ⟨e, ho⟩] at hop; cases hop
    rw [taken_open x id y hk] at hd'
    exact ⟨⟨y, hd', hk, ho, hun, h4, h5⟩⟩
  · intro hop
    rw [aget_taken hnd hg] at hop
    have hk : y.cx.kind = 2 := by
      rcases Nat.decEq y.cx.kind 2 with h | h
      · rw [if_neg (fun e => h e.1)] at hop; cases hop
      · exact h
    rw [csrun_over x.dr y _ hk] at h4 h5
    simp only [List.append_nil] at h4 h5
    rw [core_idle ho hun] at h4
    refine ⟨⟨by rw [← h4]; exact hd', h5⟩, ?_⟩
    have := congrArg (fun z : Cs => z.cx.kind) h4
    exact this.symm.trans hk

theorem AllAt.over (h : AllAt N F w wr S p x id z0 bs k out) (hk : bs.length ≤ k) : AllEnd N F w wr S p x id z0 bs out := by
  obtain ⟨z, hs, h2, h3, h4, h5, h6⟩ := h.st
  rw [List.drop_eq_nil_of_le hk] at h5 h6
  simp only [Cs.run, List.append_nil] at h5 h6
  refine ⟨?_, h6⟩
  rw [← h5, core_idle h3 h4, taken_open x id z h2]
  exact hs
theorem TakeAt.len (h : TakeAt N F w wr S p x id z0 bs m g t out) : (out ++ t).length ≤ (z0.run x.dr bs).2.length := by
  obtain ⟨y, hs, h2, h3, rfl, rfl, h4, h5⟩ := h.st
  rw [← h5]
  unfold Cs.rest
  simp only [List.length_append]
  omega
end

set_option maxHeartbeats 1600000 in
set_option maxRecDepth 100000 in
theorem all_any {N : Nat} {F : Nat → Prop} {Fs : Int → Nat → Prop} {w : World} {S : Nat} {p : Ps} {x : Xs} (h : Hid (Sv N F Fs w S p x)) {id : Int} {c : Nat} {cx : CX} (hg : Hid (aget x.K id = some (c, cx))) (hr : Hid (cx.kind ≠ 2 ∧ cx.out = [] ∧ cx.unread = [])) (bs : ByteArray) (hb : bs.size ≤ 140737488355328) (v : Value) (zs : List Int) (hz : Hid (IntsAt N w v zs)) (hzl : zs.length ≤ 140737488355328) :
    Calls Tryz.prog 15 #[.pointer (some ⟨S, 0, none⟩), .int .i64 id, .string bs, v] w fun e w' => ∃ at_ : Int, e = .returned (.tuple #[.string ⟨(Cs.run x.dr ⟨cx, x.L, x.u⟩ bs.data.toList).2.toArray⟩, .int .i64 at_]) ∧ SvX N F w w' S p (x.taken id (Cs.run x.dr ⟨cx, x.L, x.u⟩ bs.data.toList).1.core) ∧ ((Cs.run x.dr ⟨cx, x.L, x.u⟩ bs.data.toList).1.cx.kind ≠ 2 → at_ = bs.size) := by
  have HL : Hid (bs.data.toList.length = bs.size) := by show _ = _; rw [Array.length_toList]; rfl
  have HK := h.out.ki _ (aget_mem hg.out)
  have hlenT : (Cs.run x.dr ⟨cx, x.L, x.u⟩ bs.data.toList).2.length ≤ 28147497671065600 := by
    have := run_len x.dr bs.data.toList ⟨cx, x.L, x.u⟩ (HK.csi h.out.ti) hr.out.2.1
    rw [HL.out] at this
    omega
  have H0 : Hid (AllAt N F w w S p x id ⟨cx, x.L, x.u⟩ bs.data.toList 0 []) := by
    refine ⟨⟨cx, x.L, x.u⟩, ?_, hr.out.1, hr.out.2.1, hr.out.2.2, rfl, rfl⟩
    have e : x.after id ⟨cx, x.L, x.u⟩ = x := by
      unfold Xs.after kset
      have : x.K.map (fun e => if e.1 = id then (e.1, e.2.1, cx) else e) = x.K := by
        conv => rhs; rw [← List.map_id x.K]
        apply List.map_congr_left
        intro e he
        split
        · rename_i h1
          have := mem_aget h.out.nd he
          rw [h1, hg.out] at this
          injection this with this
          have h2 : cx = e.2.2 := congrArg Prod.snd this
          show (e.1, e.2.1, cx) = e
          rw [h2]
        · rfl
      rw [this]
    rw [e]
    exact h.out.svx (Upd.refl _ _)
  have HND := hid h.out.nd
  have HBel : Hid (∀ wr y, SvX N F w wr S p y → Below N w wr) := fun wr y hy => hy.below (fun k hk => (h.out.low k hk).1) (by have := h.out.low S h.out.own.1; omega)
  obtain ⟨ao, cap, rfl⟩ : ∃ ao cap, v = .slice ao zs.length cap := by
    cases hz.out with
    | none => exact ⟨_, _, rfl⟩
    | some a cap zs hlt hc => exact ⟨_, _, rfl⟩
  clear HK h hr
  generalize hz0 : (⟨cx, x.L, x.u⟩ : Cs) = z0 at *
  clear hz0
  go_enter Tryz.func15, Tryz.ntmps15
  go_wp2
  go_loopw [10, 11, 12] (fun o a i wr => ∃ (k j : Nat) (out : List UInt8), o = .string ⟨out.toArray⟩ ∧ a = .int .i64 k ∧ i = .int .i64 j ∧ k ≤ bs.size ∧ j ≤ k ∧ Hid (AllAt N F w wr S p x id z0 bs.data.toList k out)) (fun _ a _ _ => bs.size - (intOf a).toNat)
  case atStart => exact ⟨0, 0, [], rfl, rfl, rfl, Nat.zero_le _, Nat.le_refl _, H0⟩
  case round =>
    obtain ⟨k, j, out, rfl, rfl, rfl, hk, hj, hat⟩ := hrel
    clear H0
    by_cases hlt : k < bs.size
    · obtain ⟨nn, hn1, hn2, hcase⟩ : ∃ nn : Nat, 1 ≤ nn ∧ k + nn ≤ bs.size ∧ ((¬ j < zs.length ∧ nn = 1) ∨ ∃ (ad : Addr) (q : Int), ao = some ad ∧ j < zs.length ∧ wr.cell? (ad.add j) = some (.int .i64 q) ∧ ((q ≤ 1 ∧ nn = 1) ∨ (1 < q ∧ q = nn) ∨ (1 < q ∧ (bs.size : Int) - k < q ∧ (bs.size : Int) - k = nn))) := by
        by_cases hjl : j < zs.length
        · obtain ⟨z, hs, _⟩ := hat.out.st
          have hzr := hz.out.keep (HBel.out wr _ hs)
          obtain ⟨ad, rfl, hc⟩ : ∃ ad : Addr, ao = some ad ∧ ∀ i z, zs[i]? = some z → wr.cell? (ad.add i) = some (.int .i64 z) := by
            generalize hvv : Value.slice ao zs.length cap = vv at hzr
            cases hzr with
            | none => simp at hjl
            | some ad cap' zs hlt hc => injection hvv with h1 h2 h3; exact ⟨ad, h1, hc⟩
          have hq := hc j zs[j] (List.getElem?_eq_getElem hjl)
          generalize zs[j] = q at hq
          by_cases h1 : q ≤ 1
          · exact ⟨1, Nat.le_refl _, by omega, Or.inr ⟨ad, q, rfl, hjl, hq, Or.inl ⟨h1, rfl⟩⟩⟩
          · by_cases h2 : (bs.size : Int) - k < q
            · exact ⟨bs.size - k, by omega, by omega, Or.inr ⟨ad, q, rfl, hjl, hq, Or.inr (Or.inr ⟨by omega, h2, by omega⟩)⟩⟩
            · exact ⟨q.toNat, by omega, by omega, Or.inr ⟨ad, q, rfl, hjl, hq, Or.inr (Or.inl ⟨by omega, by omega⟩)⟩⟩
        · exact ⟨1, Nat.le_refl _, by omega, Or.inl ⟨hjl, rfl⟩⟩
      have HX : Hid ((bs.extract k (k + nn)).data.toList = (bs.data.toList.drop k).take nn) := by
        show _ = _
        simp only [ByteArray.data_extract, Array.toList_extract]
        rw [List.extract_eq_take_drop, Nat.add_sub_cancel_left]
      have HD := hid (hat.out.data hg.out (bs.extract k (k + nn)) nn HX.out hn1 (by rw [HL.out]; exact hn2) (by omega))
      clear hat hz HX HBel
      rcases hcase with ⟨hjl, rfl⟩ | ⟨ad, q, rfl, hjl, hq, ⟨h1, rfl⟩ | ⟨h1, rfl⟩ | ⟨h1, h2, h3⟩⟩
      all_goals
        go_wp2_with fail
        refine HD.out.mono ?_
        rintro e w1 ⟨took, rfl, ht1, ht2, hda⟩
        have HDA := hid hda
        clear hda HD
        go_wp2_with fail
        refine (HDA.out.take hg.out).mono ?_
        rintro e w2 ⟨t, g, rfl, hta⟩
        have HTA := hid hta
        clear hta HDA
        go_wp2_with fail
        go_loopg [10, 15] g (fun gn o tv wi => ∃ out' t' : List UInt8, o = .string ⟨out'.toArray⟩ ∧ tv = .string ⟨t'.toArray⟩ ∧ Hid (TakeAt N F w wi S p x id z0 bs.data.toList (bs.data.toList.drop (k + took)) gn t' out'))
        case atStart => exact ⟨out, t, rfl, rfl, HTA⟩
        case round =>
          obtain ⟨out', t', rfl, rfl, hti⟩ := hrel
          have hlen := hti.out.len
          rw [List.length_append] at hlen
          clear HTA
          by_cases hT : t' = []
          · subst hT
            go_wp2_with fail
            refine (hti.out.opened hg.out HND.out).mono ?_
            rintro e w3 ⟨op, rfl, ho1, ho2⟩
            cases op
            · have HE := hid (ho2 rfl)
              clear ho1 ho2 hti
              go_wp2
              go_ret2
              exact ⟨_, by rw [← HE.out.1.2]; rfl, HE.out.1.1, fun hne => absurd HE.out.2 hne⟩
            · have HE := hid (ho1 rfl)
              clear ho1 ho2 hti
              go_wp2
              exact ⟨⟨k + took, j + 1, out', rfl, by go_num, by go_num, by omega, by omega, HE⟩, by simp [intOf]; omega⟩
          · have eT : (t' == []) = false := by simpa using hT
            have nT : (t' != []) = true := by simpa using hT
            have HT := hid (hti.out.take hg.out HND.out hT)
            clear hti hT
            go_wp2_with fail
            refine HT.out.mono ?_
            rintro e w3 ⟨t2, g2, hg2, rfl, hta⟩
            have HTA := hid hta
            clear hta HT
            go_wp2_with fail
            go_roundg g2
            case measure => exact hg2
            case rel => exact ⟨out' ++ t', t2, congrArg Value.string (ba_app' out' t'), rfl, HTA⟩
    · have HE := hid (hat.out.over (by rw [HL.out]; omega))
      obtain rfl : k = bs.size := by omega
      clear hat
      go_wp2
      go_ret2
      exact ⟨_, by rw [← HE.out.2]; rfl, HE.out.1, fun _ => rfl⟩

end Go.Proofs.YtiiapfkcmdkkoaaGreatDoor
