import Derived.Test.YtohoddhegkjehaaGreatDoorD1
import Derived.Maps.RangeRun
import Derived.Test.YtohoddhegkjehaaGreatDoorG6
/-
  Maps of our own: when their entries came.
-/
namespace Go.Proofs.YtohoddhegkjehaaGreatDoor
open Go.RowKit Go.MapKept

/-- Each entry came at a time of its own, ahead of the clock. -/
structure Born (es : Array MapEntry) (clock : Nat) : Prop where
  lt : ∀ e ∈ es.toList, e.born < clock
  nd : (es.toList.map (·.born)).Nodup
theorem Born.nil : Born #[] 0 := ⟨fun _ h => by simp at h, by simp⟩

theorem born_modify (es : Array MapEntry) (i : Nat) (k v : Value) : (es.modify i (fun e => { e with key := k, val := v })).toList.map (·.born) = es.toList.map (·.born) := by
  apply List.ext_getElem?
  intro j
  simp only [List.getElem?_map, Array.getElem?_toList, Array.getElem?_modify]
  split
  · cases es[j]? <;> rfl
  · rfl

section
variable {α β : Type} [BEq α] [LawfulBEq α]
variable {kv : α → Value} {vv : β → Value} {d : TypeDesc} {P : Program} {w : World} {t kt et : TypeId} {m : Nat} {es : Array MapEntry} {clock : Nat} {L : List (α × β)}

theorem run_update_born (hm : P.underlying t = some (.map kt et)) (hk : P.underlying kt = some d) (hd : ∀ a, IsKey d (kv a)) (inj : ∀ a b, kv a = kv b → a = b) (hb : w.heap[m]? = some (.map es clock)) (he : Ents kv vv es L) (hbo : Born es clock) (a : α) (b : β) :
    ∃ es' clock', (Instr.mapUpdate t (.map (some m)) (kv a) (vv b)).run P w = .ok () { w with heap := w.heap.setIfInBounds m (.map es' clock') } ∧ Ents kv vv es' (aput L a b) ∧ Born es' clock' := by
  have h1 := findNow_ents hd inj a es.toList L 0 he
  obtain ⟨es', clock', h2, h3⟩ := run_update_ents hm hk hd inj hb he a b
  cases hL : L[aidx L a]? with
  | none =>
    rw [hL] at h1
    have hrun : (Instr.mapUpdate t (.map (some m)) (kv a) (vv b)).run P w = .ok () { w with heap := w.heap.setIfInBounds m (.map (es.push { key := kv a, val := vv b, born := clock }) (clock + 1)) } := by
      simp [Instr.mapUpdate, run_underlying hm, MapKept.run_getObj_map hb, run_checkKey hk (hd a), run_findKey hk h1, MapKept.run_setObj_map _ hb, Result.andThen]
    have hlt := (Array.getElem?_eq_some_iff.1 hb).1
    have hEq : (Obj.map es' clock') = Obj.map (es.push { key := kv a, val := vv b, born := clock }) (clock + 1) := by
      rw [h2] at hrun
      injection hrun with _ hw
      have := congrArg (fun W : World => W.heap[m]?) hw
      simpa [Array.getElem?_setIfInBounds, hlt] using this
    injection hEq with q1 q2
    refine ⟨es', clock', h2, h3, ?_⟩
    rw [q1, q2]
    refine ⟨fun e hx => ?_, ?_⟩
    · rw [Array.toList_push] at hx
      rcases List.mem_append.1 hx with hx | hx
      · have := hbo.lt e hx; omega
      · have : e = { key := kv a, val := vv b, born := clock } := by simpa using hx
        rw [this]; show clock < clock + 1; omega
    · rw [Array.toList_push, List.map_append]
      refine List.nodup_append.2 ⟨hbo.nd, by simp, ?_⟩
      intro x hx y hy
      obtain ⟨e, he', rfl⟩ := List.mem_map.1 hx
      have hy' : y = clock := by simpa using hy
      have := hbo.lt e he'
      omega
  | some p =>
    rw [hL] at h1
    obtain ⟨hlt', hpa⟩ := aidx_lt_of hL
    have hj : ∃ e, es[aidx L a]? = some e ∧ e.key = kv a := by
      have h2 : (es.toList.map (fun e => (e.key, e.val)))[aidx L a]? = some (kv p.1, vv p.2) := by rw [he]; simp [hL]
      simp only [List.getElem?_map, Option.map_eq_some_iff, Array.getElem?_toList] at h2
      obtain ⟨e, h3, h4⟩ := h2
      refine ⟨e, h3, ?_⟩
      have := congrArg Prod.fst h4
      rw [hpa] at this
      exact this
    obtain ⟨e, hj, hke⟩ := hj
    have hrun : (Instr.mapUpdate t (.map (some m)) (kv a) (vv b)).run P w = .ok () { w with heap := w.heap.setIfInBounds m (.map (es.modify (aidx L a) (fun e => { e with key := kv a, val := vv b })) clock) } := by
      simp [Instr.mapUpdate, run_underlying hm, MapKept.run_getObj_map hb, run_checkKey hk (hd a), run_findKey hk h1, hj, hke, run_keyThatStays (hd a), MapKept.run_setObj_map _ hb, Result.andThen]
    have hlt := (Array.getElem?_eq_some_iff.1 hb).1
    have hEq : (Obj.map es' clock') = Obj.map (es.modify (aidx L a) (fun e => { e with key := kv a, val := vv b })) clock := by
      rw [h2] at hrun
      injection hrun with _ hw
      have := congrArg (fun W : World => W.heap[m]?) hw
      simpa [Array.getElem?_setIfInBounds, hlt] using this
    injection hEq with q1 q2
    refine ⟨es', clock', h2, h3, ?_⟩
    rw [q1, q2]
    have hbm := born_modify es (aidx L a) (kv a) (vv b)
    refine ⟨fun e hx => ?_, by rw [hbm]; exact hbo.nd⟩
    have hmem : e.born ∈ es.toList.map (·.born) := by rw [← hbm]; exact List.mem_map.2 ⟨e, hx, rfl⟩
    obtain ⟨e', he', hb'⟩ := List.mem_map.1 hmem
    rw [← hb']; exact hbo.lt e' he'

theorem run_delete_born (ty : TypeId) (hm : P.underlying t = some (.map kt et)) (hk : P.underlying kt = some d) (hd : ∀ a, IsKey d (kv a)) (inj : ∀ a b, kv a = kv b → a = b) (hb : w.heap[m]? = some (.map es clock)) (he : Ents kv vv es L) (hbo : Born es clock) (a : α) :
    ∃ es', (Builtin.delete_ #[t, kt] ty #[.map (some m), kv a]).run P w = .ok (.tuple #[]) { w with heap := w.heap.setIfInBounds m (.map es' clock) } ∧ Ents kv vv es' (adel L a) ∧ Born es' clock := by
  have h1 := findNow_ents hd inj a es.toList L 0 he
  obtain ⟨es', h2, h3⟩ := run_delete_ents ty hm hk hd inj hb he a
  have hlt := (Array.getElem?_eq_some_iff.1 hb).1
  obtain ⟨es2, hrun, hsub⟩ : ∃ es2 : Array MapEntry, (Builtin.delete_ #[t, kt] ty #[.map (some m), kv a]).run P w = .ok (.tuple #[]) { w with heap := w.heap.setIfInBounds m (.map es2 clock) } ∧ List.Sublist es2.toList es.toList := by
    cases hL : L[aidx L a]? with
    | none =>
      rw [hL] at h1
      exact ⟨es, by simp [Builtin.delete_, run_underlying hm, MapKept.run_getObj_map hb, run_checkKey hk (hd a), run_findKey hk h1, MapKept.run_setObj_map _ hb, Result.andThen], List.Sublist.refl _⟩
    | some p =>
      rw [hL] at h1
      exact ⟨es.eraseIdxIfInBounds (aidx L a), by simp [Builtin.delete_, run_underlying hm, MapKept.run_getObj_map hb, run_checkKey hk (hd a), run_findKey hk h1, MapKept.run_setObj_map _ hb, Result.andThen], by rw [Array.toList_eraseIdxIfInBounds]; exact List.eraseIdx_sublist _ _⟩
  have hEq : (Obj.map es' clock) = Obj.map es2 clock := by
    rw [h2] at hrun
    injection hrun with _ hw
    have := congrArg (fun W : World => W.heap[m]?) hw
    simpa [Array.getElem?_setIfInBounds, hlt] using this
  injection hEq with q1
  refine ⟨es', h2, h3, ?_⟩
  rw [q1]
  exact ⟨fun e hx => hbo.lt e (hsub.subset hx), (hsub.map _).nodup hbo.nd⟩

end
end Go.Proofs.YtohoddhegkjehaaGreatDoor

/-
  A server in memory, with its connections.
-/
namespace Go.Proofs.YtohoddhegkjehaaGreatDoor
open Go.RowKit Go.MapKept

def ptrV (c : Nat) : Value := .pointer (some ⟨c, 0, none⟩)
theorem int_key (a : Int) : IsKey (.int .i64) (.int .i64 a) := by simp [IsKey]
theorem int_inj (a b : Int) (h : Value.int .i64 a = Value.int .i64 b) : a = b := by injection h
theorem Tryz.und46 : Tryz.prog.underlying 46 = some (.map 3 51) := by kernel_rfl
theorem Tryz.und3' : Tryz.prog.underlying 3 = some (.int .i64) := by kernel_rfl
theorem zero_conn (w : World) : (zeroValue 51).run Tryz.prog w = .ok (.pointer none) w := by kernel_rfl

/-- The map of the connections. -/
def Cm (w : World) (cm : Nat) (M : List (Int × Nat)) : Prop := ∃ es clock, w.heap[cm]? = some (.map es clock) ∧ Ents (Value.int .i64) ptrV es M ∧ Born es clock
theorem Cm.keep {M : Nat → Prop} {w w' : World} {cm : Nat} {K : List (Int × Nat)} (h : Cm w cm K) (hu : Upd M w w') (h1 : ¬ M cm) : Cm w' cm K := by
  obtain ⟨es, clock, h3, h4⟩ := h
  exact ⟨es, clock, hu.keep h3 h1, h4⟩
theorem Cm.lt {w : World} {cm : Nat} {K : List (Int × Nat)} (h : Cm w cm K) : cm < w.heap.size := by
  obtain ⟨es, clock, h3, h4⟩ := h
  exact lt_of_heap h3
theorem Cm.look {w : World} {cm : Nat} {K : List (Int × Nat)} (h : Cm w cm K) (id : Int) : (Instr.lookup 46 (.map (some cm)) (.int .i64 id) true).run Tryz.prog w = .ok (.tuple #[((aget K id).map ptrV).getD (.pointer none), .bool (aget K id).isSome]) w := by
  obtain ⟨es, clock, h3, h4⟩ := h
  exact run_lookup_ents (P := Tryz.prog) (w := w) Tryz.und46 Tryz.und3' int_key int_inj (zero_conn w) h3 h4.1 id

/-- The connections: number, where it lies, its state. -/
abbrev Ks := List (Int × Nat × CX)
def kmap (K : Ks) : List (Int × Nat) := K.map fun e => (e.1, e.2.1)
def kset (K : Ks) (id : Int) (cx : CX) : Ks := K.map fun e => if e.1 = id then (e.1, e.2.1, cx) else e

theorem kmap_kset (K : Ks) (id : Int) (cx : CX) : kmap (kset K id cx) = kmap K := by
  unfold kmap kset
  rw [List.map_map]
  apply List.map_congr_left
  intro e _
  simp only [Function.comp]
  split <;> rfl
theorem kset_keys (K : Ks) (id : Int) (cx : CX) : (kset K id cx).map (·.1) = K.map (·.1) := by
  unfold kset
  rw [List.map_map]
  apply List.map_congr_left
  intro e _
  simp only [Function.comp]
  split <;> rfl
theorem kset_kset (K : Ks) (id : Int) (a b : CX) : kset (kset K id a) id b = kset K id b := by
  unfold kset
  rw [List.map_map]
  apply List.map_congr_left
  intro e _
  simp only [Function.comp]
  by_cases h : e.1 = id
  · rw [if_pos h]; simp [h]
  · rw [if_neg h, if_neg h]
theorem mem_kset {K : Ks} {id : Int} {cx : CX} {e : Int × Nat × CX} (h : e ∈ kset K id cx) : (e.1 = id ∧ e.2.2 = cx ∧ ∃ o, (id, e.2.1, o) ∈ K) ∨ (e.1 ≠ id ∧ e ∈ K) := by
  unfold kset at h
  obtain ⟨f, hf, rfl⟩ := List.mem_map.1 h
  by_cases h1 : f.1 = id
  · rw [if_pos h1]; exact Or.inl ⟨h1, rfl, f.2.2, by rw [← h1]; exact hf⟩
  · rw [if_neg h1]; exact Or.inr ⟨h1, hf⟩

theorem aget_mem {α β : Type} [BEq α] [LawfulBEq α] {L : List (α × β)} {a : α} {b : β} (h : aget L a = some b) : (a, b) ∈ L := by
  unfold aget at h
  obtain ⟨p, hp, rfl⟩ := Option.map_eq_some_iff.1 h
  have := (aidx_lt_of hp).2
  rw [← this]
  exact List.mem_of_getElem? hp
theorem aidx_kmap (K : Ks) (id : Int) : aidx (kmap K) id = aidx K id := by
  induction K with
  | nil => rfl
  | cons p K ih =>
    show aidx ((p.1, p.2.1) :: kmap K) id = _
    unfold aidx at ih ⊢
    rw [List.findIdx_cons, List.findIdx_cons, ih]
theorem aget_kmap (K : Ks) (id : Int) : aget (kmap K) id = (aget K id).map (·.1) := by
  unfold aget
  rw [aidx_kmap]
  unfold kmap
  rw [List.getElem?_map]
  cases K[aidx K id]? <;> rfl
theorem aget_kset (K : Ks) (id : Int) (cx : CX) {c : Nat} {o : CX} (h : aget K id = some (c, o)) : aget (kset K id cx) id = some (c, cx) := by
  induction K with
  | nil => cases h
  | cons p K ih =>
    unfold aget aidx at h ih ⊢
    unfold kset at ih ⊢
    rw [List.map_cons, List.findIdx_cons]
    rw [List.findIdx_cons] at h
    by_cases hp : p.1 = id
    · have e1 : (p.1 == id) = true := by simpa using hp
      rw [e1] at h
      rw [if_pos hp]
      simp [e1] at h ⊢
      rw [h]
    · have e1 : (p.1 == id) = false := by simpa using hp
      rw [e1] at h
      rw [if_neg hp, e1]
      simp at h ⊢
      simpa using ih (by simpa using h)
theorem mem_aget {K : Ks} (hn : (K.map (·.1)).Nodup) {e : Int × Nat × CX} (h : e ∈ K) : aget K e.1 = some e.2 := by
  induction K with
  | nil => cases h
  | cons p K ih =>
    rw [List.map_cons, List.nodup_cons] at hn
    unfold aget aidx
    rw [List.findIdx_cons]
    rcases List.mem_cons.1 h with rfl | h1
    · simp
    · have hp : p.1 ≠ e.1 := fun eq => hn.1 (eq ▸ List.mem_map.2 ⟨e, h1, rfl⟩)
      have e1 : (p.1 == e.1) = false := by simpa using hp
      rw [e1]
      have := ih hn.2 h1
      unfold aget aidx at this
      simpa using this
theorem adel_sub {K : Ks} {id : Int} {e : Int × Nat × CX} (h : e ∈ adel K id) : e ∈ K := (List.eraseIdx_sublist _ _).subset h
theorem adel_kmap (K : Ks) (id : Int) : adel (kmap K) id = kmap (adel K id) := by
  unfold adel
  rw [aidx_kmap]
  unfold kmap
  rw [map_erase]

/-- A server. -/
structure Xs where
  K : Ks
  L : Texts
  u : Int
  made : Nat
  dr : Bool

/-- Where it lies. -/
structure Ps where
  s : Nat
  m : Nat
  cm : Nat

/-- What holds of a connection at all times. -/
structure KInv (x : CX) : Prop where
  ci : CInv x
  un : x.unread.length ≤ 300
  fit : x.unread ≠ [] → x.kind ≠ 2 ∧ 250 ≤ x.out.length
  out : x.out.length ≤ 449

structure Sv (N : Nat) (F : Nat → Prop) (Fs : Int → Nat → Prop) (w : World) (S : Nat) (p : Ps) (x : Xs) : Prop where
  srv : SrvT w S p.s p.m p.cm x.made x.dr x.L x.u
  cms : Cm w p.cm (kmap x.K)
  nd : (x.K.map (·.1)).Nodup
  cn : ∀ e ∈ x.K, ∃ dv uv ov, Cn (Fs e.1) w e.2.1 e.2.2 dv uv ov
  sub : ∀ e ∈ x.K, ∀ k, Fs e.1 k → F k
  dis : ∀ e ∈ x.K, ∀ f ∈ x.K, e.1 ≠ f.1 → ∀ k, Fs e.1 k → ¬ Fs f.1 k
  own : F S ∧ F p.s ∧ F p.m ∧ F p.cm
  off : ∀ e ∈ x.K, ¬ Fs e.1 S ∧ ¬ Fs e.1 p.s ∧ ¬ Fs e.1 p.m ∧ ¬ Fs e.1 p.cm
  ne : p.cm ≠ p.m
  low : ∀ k, F k → N ≤ k ∧ k < w.heap.size
  tb : Tb N w
  ki : ∀ e ∈ x.K, KInv e.2.2
  ti : TInv x.L x.u
  ids : ∀ e ∈ x.K, 0 ≤ e.1 ∧ e.1 < x.made
  few : x.K.length ≤ 4

theorem Sv.nes {N : Nat} {F : Nat → Prop} {Fs : Int → Nat → Prop} {w : World} {S : Nat} {p : Ps} {x : Xs} (h : Sv N F Fs w S p x) : p.cm ≠ p.s ∧ p.cm ≠ S := by
  obtain ⟨es, clock, h3, h4⟩ := h.cms
  refine ⟨?_, ?_⟩
  · intro e; rw [e, h.srv.sto.blk] at h3; simp at h3
  · intro e; rw [e, h.srv.blk] at h3; simp at h3

/-- A call leaves the server so. -/
def SvX (N : Nat) (F : Nat → Prop) (w w' : World) (S : Nat) (p : Ps) (x : Xs) : Prop := ∃ F' Fs', Sv N F' Fs' w' S p x ∧ Upd F w w' ∧ ∀ k, F' k → F k ∨ (w.heap.size ≤ k ∧ k < w'.heap.size)

theorem SvX.trans {N : Nat} {F F1 : Nat → Prop} {w w1 w2 : World} {S : Nat} {p : Ps} {x : Xs} (hu : Upd F w w1) (hf : ∀ k, F1 k → F k ∨ (w.heap.size ≤ k ∧ k < w1.heap.size)) (h : SvX N F1 w1 w2 S p x) : SvX N F w w2 S p x := by
  obtain ⟨F2, Fs2, h1, h2, h3⟩ := h
  refine ⟨F2, Fs2, h1, ⟨h2.os.trans hu.os, h2.tape.trans hu.tape, h2.output.trans hu.output, Nat.le_trans hu.size h2.size, fun k hk hn => (h2.block k (Nat.lt_of_lt_of_le hk hu.size) (fun e => ?_)).trans (hu.block k hk hn)⟩, fun k hk => ?_⟩
  · rcases hf k e with h4 | h4
    · exact hn h4
    · omega
  · rcases h3 k hk with h4 | h4
    · rcases hf k h4 with h5 | h5
      · exact Or.inl h5
      · right; have := h2.size; omega
    · right; have := hu.size; omega

theorem Sv.keep {N : Nat} {F M : Nat → Prop} {Fs : Int → Nat → Prop} {w w' : World} {S : Nat} {p : Ps} {x : Xs} (h : Sv N F Fs w S p x) (hu : Upd M w w') (hd : ∀ k, F k → ¬ M k) (hM : ∀ k, M k → N ≤ k) : Sv N F Fs w' S p x := {
  srv := h.srv.keep hu (hd _ h.own.1) (hd _ h.own.2.1) (hd _ h.own.2.2.1)
  cms := h.cms.keep hu (hd _ h.own.2.2.2)
  nd := h.nd
  cn := fun e he => by
    obtain ⟨dv, uv, ov, hc⟩ := h.cn e he
    exact ⟨dv, uv, ov, hc.keep hu (fun k hk => hd k (h.sub e he k hk))⟩
  sub := h.sub
  dis := h.dis
  own := h.own
  off := h.off
  ne := h.ne
  low := fun k hk => ⟨(h.low k hk).1, Nat.lt_of_lt_of_le (h.low k hk).2 hu.size⟩
  tb := h.tb.keep (hu.below (by have := h.low S h.own.1; omega) (fun k hk e => by have := hM k e; omega))
  ki := h.ki
  ti := h.ti
  ids := h.ids
  few := h.few }
theorem Sv.same {N : Nat} {F : Nat → Prop} {Fs : Int → Nat → Prop} {w w' : World} {S : Nat} {p : Ps} {x : Xs} (h : Sv N F Fs w S p x) (hu : Same w w') : Sv N F Fs w' S p x := h.keep hu (fun _ _ h => h) (fun _ h => h.elim)
theorem Sv.svx {N : Nat} {F : Nat → Prop} {Fs : Int → Nat → Prop} {w w' : World} {S : Nat} {p : Ps} {x : Xs} (h : Sv N F Fs w S p x) (hu : Same w w') : SvX N F w w' S p x := ⟨F, Fs, h.same hu, hu.mono (fun _ _ h => h.elim), fun _ hk => Or.inl hk⟩

theorem Sv.lies {N : Nat} {F : Nat → Prop} {Fs : Int → Nat → Prop} {w : World} {S : Nat} {p : Ps} {x : Xs} (h : Sv N F Fs w S p x) {e : Int × Nat × CX} (he : e ∈ x.K) : Lies N (Fs e.1) w S p.s p.m := {
  dS := (h.off e he).1
  ds := (h.off e he).2.1
  dm := (h.off e he).2.2.1
  low := fun k hk => (h.low k (h.sub e he k hk)).1
  ns := (h.low _ h.own.2.1).1
  nm := (h.low _ h.own.2.2.1).1
  nw := by have := h.low S h.own.1; omega
  lt := ⟨(h.low _ h.own.1).2, (h.low _ h.own.2.1).2, (h.low _ h.own.2.2.1).2⟩
  tb := h.tb }

/-- A connection's state, and the texts, have changed. -/
theorem Sv.upd {N : Nat} {F : Nat → Prop} {Fs : Int → Nat → Prop} {w w' : World} {S : Nat} {p : Ps} {x : Xs} (h : Sv N F Fs w S p x) {id : Int} {c : Nat} {cx cx' : CX} {L' : Texts} {u' : Int} (hg : aget x.K id = some (c, cx)) (hr : ReadX (Fs id) w w' c S p.s p.m p.cm x.made x.dr cx' L' u') (hi : KInv cx') (ht : TInv L' u') :
    SvX N F w w' S p { x with K := kset x.K id cx', L := L', u := u' } := by
  obtain ⟨Fc', dv', uv', ov', h1, hs, h2, h3⟩ := hr
  have he := aget_mem hg
  have hsz := h2.size
  have hoff : ∀ k, k < w.heap.size → ¬ Fs id k → ¬ Fc' k := fun k hk hn e => by
    rcases h3 k e with h4 | h4
    · exact hn h4
    · omega
  have hMF : ∀ k, (Fs id k ∨ k = p.s ∨ k = p.m) → F k := by
    rintro k (h4 | rfl | rfl)
    · exact h.sub _ he k h4
    · exact h.own.2.1
    · exact h.own.2.2.1
  have hlt : ∀ f ∈ x.K, ∀ k, Fs f.1 k → k < w.heap.size := fun f hf k hk => (h.low k (h.sub f hf k hk)).2
  have hnew : ∀ f ∈ x.K, f.1 ≠ id → ∀ k, Fs f.1 k → ¬ Fc' k := fun f hf hne k hk hk' => by
    rcases h3 k hk' with h4 | h4
    · exact h.dis f hf _ he hne k hk h4
    · have := hlt f hf k hk; omega
  have hmem : ∀ {P : Int × Nat × CX → Prop}, (∀ e : Int × Nat × CX, e.1 = id → e.2.1 = c → e.2.2 = cx' → P e) → (∀ e ∈ x.K, e.1 ≠ id → P e) → ∀ e ∈ kset x.K id cx', P e := by
    intro P ha hb e hm
    rcases mem_kset hm with ⟨q1, q2, o, q3⟩ | ⟨q1, q2⟩
    · have := mem_aget h.nd q3
      rw [hg] at this
      have q4 : e.2.1 = c := by injection this with this; exact (congrArg Prod.fst this).symm
      exact ha e q1 q4 q2
    · exact hb e q2 q1
  let Fs' : Int → Nat → Prop := fun j => if j = id then Fc' else Fs j
  have e1 : ∀ j, j = id → Fs' j = Fc' := fun j hj => if_pos hj
  have e2 : ∀ j, j ≠ id → Fs' j = Fs j := fun j hj => if_neg hj
  refine ⟨fun k => F k ∨ (w.heap.size ≤ k ∧ k < w'.heap.size), Fs', ⟨hs, ?_, ?_, ?_, ?_, ?_, ?_, ?_, h.ne, ?_, ?_, ?_, ht, ?_, ?_⟩, h2.mono (fun k _ e => hMF k e), fun k hk => hk⟩
  · show Cm w' p.cm (kmap (kset x.K id cx'))
    rw [kmap_kset]
    exact h.cms.keep h2 (by rintro (e | e | e); exact (h.off _ he).2.2.2 e; exact h.nes.1 e; exact h.ne e)
  · show ((kset x.K id cx').map (·.1)).Nodup
    rw [kset_keys]; exact h.nd
  · refine hmem (fun e q1 q2 q3 => ?_) (fun e q1 q2 => ?_)
    · rw [e1 _ q1, q2, q3]; exact ⟨dv', uv', ov', h1⟩
    · rw [e2 _ q2]
      obtain ⟨dv, uv, ov, hc⟩ := h.cn e q1
      refine ⟨dv, uv, ov, hc.keep h2 ?_⟩
      rintro k hk (h4 | rfl | rfl)
      · exact h.dis e q1 _ he q2 k hk h4
      · exact (h.off e q1).2.1 hk
      · exact (h.off e q1).2.2.1 hk
  · refine hmem (fun e q1 q2 q3 => ?_) (fun e q1 q2 => ?_)
    · rw [e1 _ q1]
      intro k hk
      rcases h3 k hk with h4 | h4
      · exact Or.inl (h.sub _ he k h4)
      · exact Or.inr h4
    · rw [e2 _ q2]
      exact fun k hk => Or.inl (h.sub e q1 k hk)
  · refine hmem (fun e q1 q2 q3 => hmem (fun f q4 q5 q6 => ?_) (fun f q4 q5 => ?_)) (fun e q1 q2 => hmem (fun f q4 q5 q6 => ?_) (fun f q4 q5 => ?_))
    · intro hne; exact absurd (q1.trans q4.symm) hne
    · intro _ k; rw [e1 _ q1, e2 _ q5]; exact fun a b => hnew f q4 q5 k b a
    · intro _ k; rw [e2 _ q2, e1 _ q4]; exact fun a b => hnew e q1 q2 k a b
    · intro hne k; rw [e2 _ q2, e2 _ q5]; exact h.dis e q1 f q4 hne k
  · exact ⟨Or.inl h.own.1, Or.inl h.own.2.1, Or.inl h.own.2.2.1, Or.inl h.own.2.2.2⟩
  · refine hmem (fun e q1 q2 q3 => ?_) (fun e q1 q2 => ?_)
    · rw [e1 _ q1]
      exact ⟨hoff _ (h.low _ h.own.1).2 (h.off _ he).1, hoff _ (h.low _ h.own.2.1).2 (h.off _ he).2.1, hoff _ (h.low _ h.own.2.2.1).2 (h.off _ he).2.2.1, hoff _ (h.low _ h.own.2.2.2).2 (h.off _ he).2.2.2⟩
    · rw [e2 _ q2]; exact h.off e q1
  · have hS := h.low S h.own.1
    rintro k (hk | hk)
    · have := h.low k hk; omega
    · omega
  · have hS := h.low S h.own.1
    exact h.tb.keep (h2.below (by omega) (fun k hk e => by have := h.low k (hMF k e); omega))
  · exact hmem (fun e _ _ q3 => by rw [q3]; exact hi) (fun e q1 _ => h.ki e q1)
  · exact hmem (fun e q1 _ _ => by rw [q1]; exact h.ids _ he) (fun e q1 _ => h.ids e q1)
  · show (kset x.K id cx').length ≤ 4
    unfold kset
    rw [List.length_map]
    exact h.few

end Go.Proofs.YtohoddhegkjehaaGreatDoor
