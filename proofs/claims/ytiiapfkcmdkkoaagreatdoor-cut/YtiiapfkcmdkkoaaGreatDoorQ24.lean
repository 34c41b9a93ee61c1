import Derived.Test.YtiiapfkcmdkkoaaGreatDoorQ01
import Derived.Maps.RangeRun
import Derived.Test.YtiiapfkcmdkkoaaGreatDoorQ23
import Derived.LoopN
import Derived.Defers
/-
  Maps of our own: when their entries came.
-/
namespace Go.Proofs.YtiiapfkcmdkkoaaGreatDoor
open Go.RowKit Go.MapKept

/-- Each entry came at a time of its own, ahead of the clock. -/
structure Born (es : Array MapEntry) (clock : Nat) : Prop where
  lt : ∀ e ∈ es.toList, e.born < clock
  nd : (es.toList.map (·.born)).Nodup
theorem Born.nil : Born #[] 0 := ⟨fun _ h => by simp at h, by simp⟩

theorem born_modify (es : Array MapEntry) (i : Nat) (k v : Value) : (es.modify i (fun e => { e with key := k, val := v })).toList.map (·.born) = es.toList.map (·.born) := by
  apply List.ext_getElem?
  intro j
  simp only [List.getElem?_map, Array.getElem?_toList, Array.getElem?_modify]
  split
  · cases es[j]? <;> rfl
  · rfl

section
variable {α β : Type} [BEq α] [LawfulBEq α]
variable {kv : α → Value} {vv : β → Value} {d : TypeDesc} {P : Program} {w : World} {t kt et : TypeId} {m : Nat} {es : Array MapEntry} {clock : Nat} {L : List (α × β)}

theorem run_update_born (hm : P.underlying t = some (.map kt et)) (hk : P.underlying kt = some d) (hd : ∀ a, IsKey d (kv a)) (inj : ∀ a b, kv a = kv b → a = b) (hb : w.heap[m]? = some (.map es clock)) (he : Ents kv vv es L) (hbo : Born es clock) (a : α) (b : β) :
    ∃ es' clock', (Instr.mapUpdate t (.map (some m)) (kv a) (vv b)).run P w = .ok () { w with heap := w.heap.setIfInBounds m (.map es' clock') } ∧ Ents kv vv es' (aput L a b) ∧ Born es' clock' := by
  have h1 := findNow_ents hd inj a es.toList L 0 he
  obtain ⟨es', clock', h2, h3⟩ := run_update_ents hm hk hd inj hb he a b
  cases hL : L[aidx L a]? with
  | none =>
    rw [hL] at h1
    have hrun : (Instr.mapUpdate t (.map (some m)) (kv a) (vv b)).run P w = .ok () { w with heap := w.heap.setIfInBounds m (.map (es.push { key := kv a, val := vv b, born := clock }) (clock + 1)) } := by
      simp [Instr.mapUpdate, run_underlying hm, MapKept.run_getObj_map hb, run_checkKey hk (hd a), run_findKey hk h1, MapKept.run_setObj_map _ hb, Result.andThen]
    have hlt := (Array.getElem?_eq_some_iff.1 hb).1
    have hEq : (Obj.map es' clock') = Obj.map (es.push { key := kv a, val := vv b, born := clock }) (clock + 1) := by
      rw [h2] at hrun
      injection hrun with _ hw
      have := congrArg (fun W : World => W.heap[m]?) hw
      simpa [Array.getElem?_setIfInBounds, hlt] using this
    injection hEq with q1 q2
    refine ⟨es', clock', h2, h3, ?_⟩
    rw [q1, q2]
    refine ⟨fun e hx => ?_, ?_⟩
    · rw [Array.toList_push] at hx
      rcases List.mem_append.1 hx with hx | hx
      · have := hbo.lt e hx; omega
      · have : e = { key := kv a, val := vv b, born := clock } := by simpa using hx
        rw [this]; show clock < clock + 1; omega
    · rw [Array.toList_push, List.map_append]
      refine List.nodup_append.2 ⟨hbo.nd, by simp, ?_⟩
      intro x hx y hy
      obtain ⟨e, he', rfl⟩ := List.mem_map.1 hx
      have hy' : y = clock := by simpa using hy
      have := hbo.lt e he'
      omega
  | some p =>
    rw [hL] at h1
    obtain ⟨hlt', hpa⟩ := aidx_lt_of hL
    have hj : ∃ e, es[aidx L a]? = some e ∧ e.key = kv a := by
      have h2 : (es.toList.map (fun e => (e.key, e.val)))[aidx L a]? = some (kv p.1, vv p.2) := by rw [he]; simp [hL]
      simp only [List.getElem?_map, Option.map_eq_some_iff, Array.getElem?_toList] at h2
      obtain ⟨e, h3, h4⟩ := h2
      refine ⟨e, h3, ?_⟩
      have := congrArg Prod.fst h4
      rw [hpa] at this
      exact this
    obtain ⟨e, hj, hke⟩ := hj
    have hrun : (Instr.mapUpdate t (.map (some m)) (kv a) (vv b)).run P w = .ok () { w with heap := w.heap.setIfInBounds m (.map (es.modify (aidx L a) (fun e => { e with key := kv a, val := vv b })) clock) } := by
      simp [Instr.mapUpdate, run_underlying hm, MapKept.run_getObj_map hb, run_checkKey hk (hd a), run_findKey hk h1, hj, hke, run_keyThatStays (hd a), MapKept.run_setObj_map _ hb, Result.andThen]
    have hlt := (Array.getElem?_eq_some_iff.1 hb).1
    have hEq : (Obj.map es' clock') = Obj.map (es.modify (aidx L a) (fun e => { e with key := kv a, val := vv b })) clock := by
      rw [h2] at hrun
      injection hrun with _ hw
      have := congrArg (fun W : World => W.heap[m]?) hw
      simpa [Array.getElem?_setIfInBounds, hlt] using this
    injection hEq with q1 q2
    refine ⟨es', clock', h2, h3, ?_⟩
    rw [q1, q2]
    have hbm := born_modify es (aidx L a) (kv a) (vv b)
    refine ⟨fun e hx => ?_, by rw [hbm]; exact hbo.nd⟩
    have hmem : e.born ∈ es.toList.map (·.born) := by rw [← hbm]; exact List.mem_map.2 ⟨e, hx, rfl⟩
    obtain ⟨e', he', hb'⟩ := List.mem_map.1 hmem
    rw [← hb']; exact hbo.lt e' he'

theorem run_delete_born (ty : TypeId) (hm : P.underlying t = some (.map kt et)) (hk : P.underlying kt = some d) (hd : ∀ a, IsKey d (kv a)) (inj : ∀ a b, kv a = kv b → a = b) (hb : w.heap[m]? = some (.map es clock)) (he : Ents kv vv es L) (hbo : Born es clock) (a : α) :
    ∃ es', (Builtin.delete_ #[t, kt] ty #[.map (some m), kv a]).run P w = .ok (.tuple #[]) { w with heap := w.heap.setIfInBounds m (.map es' clock) } ∧ Ents kv vv es' (adel L a) ∧ Born es' clock := by
  have h1 := findNow_ents hd inj a es.toList L 0 he
  obtain ⟨es', h2, h3⟩ := run_delete_ents ty hm hk hd inj hb he a
  have hlt := (Array.getElem?_eq_some_iff.1 hb).1
  obtain ⟨es2, hrun, hsub⟩ : ∃ es2 : Array MapEntry, (Builtin.delete_ #[t, kt] ty #[.map (some m), kv a]).run P w = .ok (.tuple #[]) { w with heap := w.heap.setIfInBounds m (.map es2 clock) } ∧ List.Sublist es2.toList es.toList := by
    cases hL : L[aidx L a]? with
    | none =>
      rw [hL] at h1
      exact ⟨es, by simp [Builtin.delete_, run_underlying hm, MapKept.run_getObj_map hb, run_checkKey hk (hd a), run_findKey hk h1, MapKept.run_setObj_map _ hb, Result.andThen], List.Sublist.refl _⟩
    | some p =>
      rw [hL] at h1
      exact ⟨es.eraseIdxIfInBounds (aidx L a), by simp [Builtin.delete_, run_underlying hm, MapKept.run_getObj_map hb, run_checkKey hk (hd a), run_findKey hk h1, MapKept.run_setObj_map _ hb, Result.andThen], by rw [Array.toList_eraseIdxIfInBounds]; exact List.eraseIdx_sublist _ _⟩
  have hEq : (Obj.map es' clock) = Obj.map es2 clock := by
    rw [h2] at hrun
    injection hrun with _ hw
    have := congrArg (fun W : World => W.heap[m]?) hw
    simpa [Array.getElem?_setIfInBounds, hlt] using this
  injection hEq with q1
  refine ⟨es', h2, h3, ?_⟩
  rw [q1]
  exact ⟨fun e hx => hbo.lt e (hsub.subset hx), (hsub.map _).nodup hbo.nd⟩

end
end Go.Proofs.YtiiapfkcmdkkoaaGreatDoor

/-
  A server in memory, with its connections.
-/
namespace Go.Proofs.YtiiapfkcmdkkoaaGreatDoor
open Go.RowKit Go.MapKept

def ptrV (c : Nat) : Value := .pointer (some ⟨c, 0, none⟩)
theorem int_key (a : Int) : IsKey (.int .i64) (.int .i64 a) := by simp [IsKey]
theorem int_inj (a b : Int) (h : Value.int .i64 a = Value.int .i64 b) : a = b := by injection h
theorem Tryz.und55 : Tryz.prog.underlying 55 = some (.map 3 65) := by kernel_rfl
theorem Tryz.und3' : Tryz.prog.underlying 3 = some (.int .i64) := by kernel_rfl
theorem zero_conn (w : World) : (zeroValue 65).run Tryz.prog w = .ok (.pointer none) w := by kernel_rfl

/-- The map of the connections. -/
def Cm (w : World) (cm : Nat) (M : List (Int × Nat)) : Prop := ∃ es clock, w.heap[cm]? = some (.map es clock) ∧ Ents (Value.int .i64) ptrV es M ∧ Born es clock
theorem Cm.keep {M : Nat → Prop} {w w' : World} {cm : Nat} {K : List (Int × Nat)} (h : Cm w cm K) (hu : Upd M w w') (h1 : ¬ M cm) : Cm w' cm K := by
  obtain ⟨es, clock, h3, h4⟩ := h
  exact ⟨es, clock, hu.keep h3 h1, h4⟩
theorem Cm.lt {w : World} {cm : Nat} {K : List (Int × Nat)} (h : Cm w cm K) : cm < w.heap.size := by
  obtain ⟨es, clock, h3, h4⟩ := h
  exact lt_of_heap h3
theorem Cm.look {w : World} {cm : Nat} {K : List (Int × Nat)} (h : Cm w cm K) (id : Int) : (Instr.lookup 55 (.map (some cm)) (.int .i64 id) true).run Tryz.prog w = .ok (.tuple #[((aget K id).map ptrV).getD (.pointer none), .bool (aget K id).isSome]) w := by
  obtain ⟨es, clock, h3, h4⟩ := h
  exact run_lookup_ents (P := Tryz.prog) (w := w) Tryz.und55 Tryz.und3' int_key int_inj (zero_conn w) h3 h4.1 id

/-- The connections: number, where it lies, its state. -/
abbrev Ks := List (Int × Nat × CX)
def kmap (K : Ks) : List (Int × Nat) := K.map fun e => (e.1, e.2.1)
def kset (K : Ks) (id : Int) (cx : CX) : Ks := K.map fun e => if e.1 = id then (e.1, e.2.1, cx) else e

theorem kmap_kset (K : Ks) (id : Int) (cx : CX) : kmap (kset K id cx) = kmap K := by
  unfold kmap kset
  rw [List.map_map]
  apply List.map_congr_left
  intro e _
  simp only [Function.comp]
  split <;> rfl
theorem kset_keys (K : Ks) (id : Int) (cx : CX) : (kset K id cx).map (·.1) = K.map (·.1) := by
  unfold kset
  rw [List.map_map]
  apply List.map_congr_left
  intro e _
  simp only [Function.comp]
  split <;> rfl
theorem kset_kset (K : Ks) (id : Int) (a b : CX) : kset (kset K id a) id b = kset K id b := by
  unfold kset
  rw [List.map_map]
  apply List.map_congr_left
  intro e _
  simp only [Function.comp]
  by_cases h : e.1 = id
  · rw [if_pos h]; simp [h]
  · rw [if_neg h, if_neg h]
theorem mem_kset {K : Ks} {id : Int} {cx : CX} {e : Int × Nat × CX} (h : e ∈ kset K id cx) : (e.1 = id ∧ e.2.2 = cx ∧ ∃ o, (id, e.2.1, o) ∈ K) ∨ (e.1 ≠ id ∧ e ∈ K) := by
  unfold kset at h
  obtain ⟨f, hf, rfl⟩ := List.mem_map.1 h
  by_cases h1 : f.1 = id
  · rw [if_pos h1]; exact Or.inl ⟨h1, rfl, f.2.2, by rw [← h1]; exact hf⟩
  · rw [if_neg h1]; exact Or.inr ⟨h1, hf⟩

theorem aget_mem {α β : Type} [BEq α] [LawfulBEq α] {L : List (α × β)} {a : α} {b : β} (h : aget L a = some b) : (a, b) ∈ L := by
  unfold aget at h
  obtain ⟨p, hp, rfl⟩ := Option.map_eq_some_iff.1 h
  have := (aidx_lt_of hp).2
  rw [← this]
  exact List.mem_of_getElem? hp
theorem aidx_kmap (K : Ks) (id : Int) : aidx (kmap K) id = aidx K id := by
  induction K with
  | nil => rfl
  | cons p K ih =>
    show aidx ((p.1, p.2.1) :: kmap K) id = _
    unfold aidx at ih ⊢
    rw [List.findIdx_cons, List.findIdx_cons, ih]
theorem aget_kmap (K : Ks) (id : Int) : aget (kmap K) id = (aget K id).map (·.1) := by
  unfold aget
  rw [aidx_kmap]
  unfold kmap
  rw [List.getElem?_map]
  cases K[aidx K id]? <;> rfl
theorem aget_kset (K : Ks) (id : Int) (cx : CX) {c : Nat} {o : CX} (h : aget K id = some (c, o)) : aget (kset K id cx) id = some (c, cx) := by
  induction K with
  | nil => cases h
  | cons p K ih =>
    unfold aget aidx at h ih ⊢
    unfold kset at ih ⊢
    rw [List.map_cons, List.findIdx_cons]
    rw [List.findIdx_cons] at h
    by_cases hp : p.1 = id
    · have e1 : (p.1 == id) = true := by simpa using hp
      rw [e1] at h
      rw [if_pos hp]
      simp [e1] at h ⊢
      rw [h]
    · have e1 : (p.1 == id) = false := by simpa using hp
      rw [e1] at h
      rw [if_neg hp, e1]
      simp at h ⊢
      simpa using ih (by simpa using h)
theorem mem_aget {K : Ks} (hn : (K.map (·.1)).Nodup) {e : Int × Nat × CX} (h : e ∈ K) : aget K e.1 = some e.2 := by
  induction K with
  | nil => cases h
  | cons p K ih =>
    rw [List.map_cons, List.nodup_cons] at hn
    unfold aget aidx
    rw [List.findIdx_cons]
    rcases List.mem_cons.1 h with rfl | h1
    · simp
    · have hp : p.1 ≠ e.1 := fun eq => hn.1 (eq ▸ List.mem_map.2 ⟨e, h1, rfl⟩)
      have e1 : (p.1 == e.1) = false := by simpa using hp
      rw [e1]
      have := ih hn.2 h1
      unfold aget aidx at this
      simpa using this
theorem adel_sub {K : Ks} {id : Int} {e : Int × Nat × CX} (h : e ∈ adel K id) : e ∈ K := (List.eraseIdx_sublist _ _).subset h
theorem adel_kmap (K : Ks) (id : Int) : adel (kmap K) id = kmap (adel K id) := by
  unfold adel
  rw [aidx_kmap]
  unfold kmap
  rw [map_erase]

/-- A server. -/
structure Xs where
  K : Ks
  L : Texts
  u : Int
  made : Nat
  dr : Bool

/-- Where it lies. -/
structure Ps where
  s : Nat
  m : Nat
  cm : Nat
  wb : Nat

/-- What holds of a connection at all times. -/
structure KInv (x : CX) : Prop where
  ci : CInv x
  un : x.unread.length ≤ 300
  fit : x.unread ≠ [] → x.kind ≠ 2 ∧ 250 ≤ x.out.length
  out : x.out.length ≤ 449

/-- The wheel beside the connections. -/
structure WSv (F : Nat → Prop) (Fs : Int → Nat → Prop) (w : World) (S : Nat) (p : Ps) (K : Ks) (G : Nat → Prop) (W : Wst) : Prop where
  at_ : WAt G w p.wb W
  wf : WF (K.map (·.1)) W
  set : ∀ e ∈ K, Settled e.1 e.2.2 W
  gF : ∀ k, G k → F k
  gd : ∀ e ∈ K, ∀ k, Fs e.1 k → ¬ G k
  gS : ¬ G S ∧ ¬ G p.s ∧ ¬ G p.m ∧ ¬ G p.cm

structure Sv (N : Nat) (F : Nat → Prop) (Fs : Int → Nat → Prop) (w : World) (S : Nat) (p : Ps) (x : Xs) : Prop where
  srv : SrvT w S p.s p.m p.cm p.wb x.made x.dr x.L x.u
  cms : Cm w p.cm (kmap x.K)
  nd : (x.K.map (·.1)).Nodup
  cn : ∀ e ∈ x.K, ∃ dv uv ov, Cn (Fs e.1) w e.2.1 e.2.2 dv uv ov
  sub : ∀ e ∈ x.K, ∀ k, Fs e.1 k → F k
  dis : ∀ e ∈ x.K, ∀ f ∈ x.K, e.1 ≠ f.1 → ∀ k, Fs e.1 k → ¬ Fs f.1 k
  own : F S ∧ F p.s ∧ F p.m ∧ F p.cm
  off : ∀ e ∈ x.K, ¬ Fs e.1 S ∧ ¬ Fs e.1 p.s ∧ ¬ Fs e.1 p.m ∧ ¬ Fs e.1 p.cm
  ne : p.cm ≠ p.m
  low : ∀ k, F k → N ≤ k ∧ k < w.heap.size
  tb : Tb N w
  ki : ∀ e ∈ x.K, KInv e.2.2
  ti : TInv x.L x.u
  ids : ∀ e ∈ x.K, 0 ≤ e.1 ∧ e.1 < x.made
  few : x.K.length ≤ 4
  wh : ∃ G W, WSv F Fs w S p x.K G W
  idk : ∀ e ∈ x.K, e.2.2.id = e.1

theorem Sv.nes {N : Nat} {F : Nat → Prop} {Fs : Int → Nat → Prop} {w : World} {S : Nat} {p : Ps} {x : Xs} (h : Sv N F Fs w S p x) : p.cm ≠ p.s ∧ p.cm ≠ S := by
  obtain ⟨es, clock, h3, h4⟩ := h.cms
  refine ⟨?_, ?_⟩
  · intro e; rw [e, h.srv.sto.blk] at h3; simp at h3
  · intro e; rw [e, h.srv.blk] at h3; simp at h3

/-- A call leaves the server so. -/
def SvX (N : Nat) (F : Nat → Prop) (w w' : World) (S : Nat) (p : Ps) (x : Xs) : Prop := ∃ F' Fs', Sv N F' Fs' w' S p x ∧ Upd F w w' ∧ ∀ k, F' k → F k ∨ (w.heap.size ≤ k ∧ k < w'.heap.size)

theorem SvX.trans {N : Nat} {F F1 : Nat → Prop} {w w1 w2 : World} {S : Nat} {p : Ps} {x : Xs} (hu : Upd F w w1) (hf : ∀ k, F1 k → F k ∨ (w.heap.size ≤ k ∧ k < w1.heap.size)) (h : SvX N F1 w1 w2 S p x) : SvX N F w w2 S p x := by
  obtain ⟨F2, Fs2, h1, h2, h3⟩ := h
  refine ⟨F2, Fs2, h1, ⟨h2.os.trans hu.os, h2.tape.trans hu.tape, h2.output.trans hu.output, Nat.le_trans hu.size h2.size, fun k hk hn => (h2.block k (Nat.lt_of_lt_of_le hk hu.size) (fun e => ?_)).trans (hu.block k hk hn)⟩, fun k hk => ?_⟩
  · rcases hf k e with h4 | h4
    · exact hn h4
    · omega
  · rcases h3 k hk with h4 | h4
    · rcases hf k h4 with h5 | h5
      · exact Or.inl h5
      · right; have := h2.size; omega
    · right; have := hu.size; omega

theorem Sv.keep {N : Nat} {F M : Nat → Prop} {Fs : Int → Nat → Prop} {w w' : World} {S : Nat} {p : Ps} {x : Xs} (h : Sv N F Fs w S p x) (hu : Upd M w w') (hd : ∀ k, F k → ¬ M k) (hM : ∀ k, M k → N ≤ k) : Sv N F Fs w' S p x := {
  srv := h.srv.keep hu (hd _ h.own.1) (hd _ h.own.2.1) (hd _ h.own.2.2.1)
  cms := h.cms.keep hu (hd _ h.own.2.2.2)
  nd := h.nd
  cn := fun e he => by
    obtain ⟨dv, uv, ov, hc⟩ := h.cn e he
    exact ⟨dv, uv, ov, hc.keep hu (fun k hk => hd k (h.sub e he k hk))⟩
  sub := h.sub
  dis := h.dis
  own := h.own
  off := h.off
  ne := h.ne
  low := fun k hk => ⟨(h.low k hk).1, Nat.lt_of_lt_of_le (h.low k hk).2 hu.size⟩
  tb := h.tb.keep (hu.below (by have := h.low S h.own.1; omega) (fun k hk e => by have := hM k e; omega))
  ki := h.ki
  ti := h.ti
  ids := h.ids
  few := h.few
  wh := by
    obtain ⟨G, W, hw⟩ := h.wh
    exact ⟨G, W, hw.at_.keep hu (fun k hk => hd k (hw.gF k hk)), hw.wf, hw.set, hw.gF, hw.gd, hw.gS⟩
  idk := h.idk }
theorem Sv.same {N : Nat} {F : Nat → Prop} {Fs : Int → Nat → Prop} {w w' : World} {S : Nat} {p : Ps} {x : Xs} (h : Sv N F Fs w S p x) (hu : Same w w') : Sv N F Fs w' S p x := h.keep hu (fun _ _ h => h) (fun _ h => h.elim)
theorem Sv.svx {N : Nat} {F : Nat → Prop} {Fs : Int → Nat → Prop} {w w' : World} {S : Nat} {p : Ps} {x : Xs} (h : Sv N F Fs w S p x) (hu : Same w w') : SvX N F w w' S p x := ⟨F, Fs, h.same hu, hu.mono (fun _ _ h => h.elim), fun _ hk => Or.inl hk⟩

theorem Sv.lies {N : Nat} {F : Nat → Prop} {Fs : Int → Nat → Prop} {w : World} {S : Nat} {p : Ps} {x : Xs} (h : Sv N F Fs w S p x) {e : Int × Nat × CX} (he : e ∈ x.K) : Lies N (Fs e.1) w S p.s p.m := {
  dS := (h.off e he).1
  ds := (h.off e he).2.1
  dm := (h.off e he).2.2.1
  low := fun k hk => (h.low k (h.sub e he k hk)).1
  ns := (h.low _ h.own.2.1).1
  nm := (h.low _ h.own.2.2.1).1
  nw := by have := h.low S h.own.1; omega
  lt := ⟨(h.low _ h.own.1).2, (h.low _ h.own.2.1).2, (h.low _ h.own.2.2.1).2⟩
  tb := h.tb }

theorem Sv.by_ {N : Nat} {F : Nat → Prop} {Fs : Int → Nat → Prop} {w : World} {S : Nat} {p : Ps} {x : Xs} (h : Sv N F Fs w S p x) {e : Int × Nat × CX} (he : e ∈ x.K) {G : Nat → Prop} {W : Wst} (hw : WSv F Fs w S p x.K G W) : WBy N (Fs e.1) G (x.K.map (·.1)) w S p.s p.m p.wb W :=
  ⟨hw.at_, hw.wf, by rw [List.length_map]; have := h.few; omega, hw.gd e he, hw.gS.1, hw.gS.2.1, hw.gS.2.2.1, fun k hk => (h.low k (hw.gF k hk)).1⟩

/-- A connection's state, and the texts, have changed. -/
theorem Sv.upd {N : Nat} {F : Nat → Prop} {Fs : Int → Nat → Prop} {w w' : World} {S : Nat} {p : Ps} {x : Xs} (h : Sv N F Fs w S p x) {id : Int} {c : Nat} {cx cx' : CX} {L' : Texts} {u' : Int} (hg : aget x.K id = some (c, cx)) {G : Nat → Prop} {W : Wst} (hw : WSv F Fs w S p x.K G W) (hr : ReadX (Fs id) G (x.K.map (·.1)) W w w' c S p.s p.m p.cm p.wb x.made x.dr cx' L' u') (hcid : cx'.id = id) (hi : KInv cx') (ht : TInv L' u') :
    SvX N F w w' S p { x with K := kset x.K id cx', L := L', u := u' } := by
  obtain ⟨Fc', G', W', dv', uv', ov', h1, hs, ⟨a1, a2, a3, a4⟩, h2, h3, h4', h5'⟩ := hr
  rw [hcid] at a3 a4
  have he := aget_mem hg
  have hsz := h2.size
  have hoff : ∀ k, k < w.heap.size → ¬ Fs id k → ¬ Fc' k := fun k hk hn e => by
    rcases h3 k e with h4 | h4
    · exact hn h4
    · omega
  have hMF : ∀ k, (Fs id k ∨ k = p.s ∨ k = p.m ∨ G k) → F k := by
    rintro k (h4 | rfl | rfl | h4)
    · exact h.sub _ he k h4
    · exact h.own.2.1
    · exact h.own.2.2.1
    · exact hw.gF k h4
  have hGo : ∀ k, k < w.heap.size → ¬ G k → ¬ G' k := fun k hk hn e => by
    rcases h4' k e with h4 | h4
    · exact hn h4
    · omega
  have hlt : ∀ f ∈ x.K, ∀ k, Fs f.1 k → k < w.heap.size := fun f hf k hk => (h.low k (h.sub f hf k hk)).2
  have hnew : ∀ f ∈ x.K, f.1 ≠ id → ∀ k, Fs f.1 k → ¬ Fc' k := fun f hf hne k hk hk' => by
    rcases h3 k hk' with h4 | h4
    · exact h.dis f hf _ he hne k hk h4
    · have := hlt f hf k hk; omega
  have hmem : ∀ {P : Int × Nat × CX → Prop}, (∀ e : Int × Nat × CX, e.1 = id → e.2.1 = c → e.2.2 = cx' → P e) → (∀ e ∈ x.K, e.1 ≠ id → P e) → ∀ e ∈ kset x.K id cx', P e := by
    intro P ha hb e hm
    rcases mem_kset hm with ⟨q1, q2, o, q3⟩ | ⟨q1, q2⟩
    · have := mem_aget h.nd q3
      rw [hg] at this
      have q4 : e.2.1 = c := by injection this with this; exact (congrArg Prod.fst this).symm
      exact ha e q1 q4 q2
    · exact hb e q2 q1
  let Fs' : Int → Nat → Prop := fun j => if j = id then Fc' else Fs j
  have e1 : ∀ j, j = id → Fs' j = Fc' := fun j hj => if_pos hj
  have e2 : ∀ j, j ≠ id → Fs' j = Fs j := fun j hj => if_neg hj
  refine ⟨fun k => F k ∨ (w.heap.size ≤ k ∧ k < w'.heap.size), Fs', ⟨hs, ?_, ?_, ?_, ?_, ?_, ?_, ?_, h.ne, ?_, ?_, ?_, ht, ?_, ?_, ⟨G', W', a1, ?_, ?_, ?_, ?_, ?_⟩, ?_⟩, h2.mono (fun k _ e => hMF k e), fun k hk => hk⟩
  · show Cm w' p.cm (kmap (kset x.K id cx'))
    rw [kmap_kset]
    exact h.cms.keep h2 (by rintro (e | e | e | e); exact (h.off _ he).2.2.2 e; exact h.nes.1 e; exact h.ne e; exact hw.gS.2.2.2 e)
  · show ((kset x.K id cx').map (·.1)).Nodup
    rw [kset_keys]; exact h.nd
  · refine hmem (fun e q1 q2 q3 => ?_) (fun e q1 q2 => ?_)
    · rw [e1 _ q1, q2, q3]; exact ⟨dv', uv', ov', h1⟩
    · rw [e2 _ q2]
      obtain ⟨dv, uv, ov, hc⟩ := h.cn e q1
      refine ⟨dv, uv, ov, hc.keep h2 ?_⟩
      rintro k hk (h4 | rfl | rfl | h4)
      · exact h.dis e q1 _ he q2 k hk h4
      · exact (h.off e q1).2.1 hk
      · exact (h.off e q1).2.2.1 hk
      · exact hw.gd e q1 k hk h4
  · refine hmem (fun e q1 q2 q3 => ?_) (fun e q1 q2 => ?_)
    · rw [e1 _ q1]
      intro k hk
      rcases h3 k hk with h4 | h4
      · exact Or.inl (h.sub _ he k h4)
      · exact Or.inr h4
    · rw [e2 _ q2]
      exact fun k hk => Or.inl (h.sub e q1 k hk)
  · refine hmem (fun e q1 q2 q3 => hmem (fun f q4 q5 q6 => ?_) (fun f q4 q5 => ?_)) (fun e q1 q2 => hmem (fun f q4 q5 q6 => ?_) (fun f q4 q5 => ?_))
    · intro hne; exact absurd (q1.trans q4.symm) hne
    · intro _ k; rw [e1 _ q1, e2 _ q5]; exact fun a b => hnew f q4 q5 k b a
    · intro _ k; rw [e2 _ q2, e1 _ q4]; exact fun a b => hnew e q1 q2 k a b
    · intro hne k; rw [e2 _ q2, e2 _ q5]; exact h.dis e q1 f q4 hne k
  · exact ⟨Or.inl h.own.1, Or.inl h.own.2.1, Or.inl h.own.2.2.1, Or.inl h.own.2.2.2⟩
  · refine hmem (fun e q1 q2 q3 => ?_) (fun e q1 q2 => ?_)
    · rw [e1 _ q1]
      exact ⟨hoff _ (h.low _ h.own.1).2 (h.off _ he).1, hoff _ (h.low _ h.own.2.1).2 (h.off _ he).2.1, hoff _ (h.low _ h.own.2.2.1).2 (h.off _ he).2.2.1, hoff _ (h.low _ h.own.2.2.2).2 (h.off _ he).2.2.2⟩
    · rw [e2 _ q2]; exact h.off e q1
  · have hS := h.low S h.own.1
    rintro k (hk | hk)
    · have := h.low k hk; omega
    · omega
  · have hS := h.low S h.own.1
    exact h.tb.keep (h2.below (by omega) (fun k hk e => by have := h.low k (hMF k e); omega))
  · exact hmem (fun e _ _ q3 => by rw [q3]; exact hi) (fun e q1 _ => h.ki e q1)
  · exact hmem (fun e q1 _ _ => by rw [q1]; exact h.ids _ he) (fun e q1 _ => h.ids e q1)
  · show (kset x.K id cx').length ≤ 4
    unfold kset
    rw [List.length_map]
    exact h.few
  · show WF ((kset x.K id cx').map (·.1)) W'
    rw [kset_keys]; exact a2
  · refine hmem (fun e q1 q2 q3 => ?_) (fun e q1 q2 => ?_)
    · rw [q1, q3]; exact a4
    · intro i hi
      rw [a3.2 (e.1, (i : Int)) q2]
      exact hw.set e q1 i hi
  · intro k hk
    rcases h4' k hk with h4 | h4
    · exact Or.inl (hw.gF k h4)
    · exact Or.inr h4
  · refine hmem (fun e q1 q2 q3 => ?_) (fun e q1 q2 => ?_)
    · rw [e1 _ q1]; exact h5'
    · rw [e2 _ q2]
      exact fun k hk => hGo k (hlt e q1 k hk) (hw.gd e q1 k hk)
  · exact ⟨hGo _ (h.low _ h.own.1).2 hw.gS.1, hGo _ (h.low _ h.own.2.1).2 hw.gS.2.1, hGo _ (h.low _ h.own.2.2.1).2 hw.gS.2.2.1, hGo _ (h.low _ h.own.2.2.2).2 hw.gS.2.2.2⟩
  · exact hmem (fun e q1 _ q3 => by rw [q1, q3]; exact hcid) (fun e q1 _ => h.idk e q1)

end Go.Proofs.YtiiapfkcmdkkoaaGreatDoor

/-
  Data, Open, close, Shut.
-/
namespace Go.Proofs.YtiiapfkcmdkkoaaGreatDoor
open Go.RowKit Go.MapKept

def Xs.after (x : Xs) (id : Int) (z : Cs) : Xs := { x with K := kset x.K id z.cx, L := z.L, u := z.u }
def Xs.gone (x : Xs) (id : Int) : Xs := { x with K := adel x.K id }
/-- The connection c of the server. -/
def Xs.cs (x : Xs) (cx : CX) : Cs := ⟨cx, x.L, x.u⟩

theorem ate_none (dr : Bool) (x : Cs) (l : List UInt8) (h : ¬ x.goes) : x.ate dr l = 0 := by
  cases l with
  | nil => rfl
  | cons b l => unfold Cs.ate; rw [if_neg h]

theorem Cs.fits_of {x : CX} (h : KInv x) (L : Texts) (u : Int) : Cs.Fits ⟨x, L, u⟩ := ⟨h.un, h.fit⟩
theorem KInv.csi {x : CX} (h : KInv x) {L : Texts} {u : Int} (ht : TInv L u) : CsI ⟨x, L, u⟩ := ⟨h.ci, ht, h.out⟩
theorem kinv_of {z : Cs} (h : CsI z) (hf : z.Fits) : KInv z.cx := ⟨h.ci, hf.1, hf.2, h.out⟩
theorem fits_got' (dr : Bool) (x : Cs) (l : List UInt8) (hf : x.Fits) : (x.got dr l).Fits := by
  by_cases hu : x.cx.unread = []
  · exact fits_got dr x l hu
  · have hk := hf.2 hu
    have h0 : x.ate dr l = 0 := ate_none dr x l (fun hg => by have := hg.2; omega)
    unfold Cs.got
    rw [h0]
    show (x.admit (l.drop 0)).Fits
    unfold Cs.admit
    rw [if_neg hk.1]
    refine ⟨?_, fun _ => hk⟩
    have := hf.1
    show (x.cx.unread ++ (l.drop 0).take (300 - x.cx.unread.length)).length ≤ 300
    simp
    omega
theorem KInv.got {x : CX} (h : KInv x) {L : Texts} {u : Int} (ht : TInv L u) (dr : Bool) (l : List UInt8) : KInv (Cs.got dr ⟨x, L, u⟩ l).cx ∧ TInv (Cs.got dr ⟨x, L, u⟩ l).L (Cs.got dr ⟨x, L, u⟩ l).u := by
  have hc := (h.csi ht).got dr l
  exact ⟨kinv_of hc (fits_got' dr _ l (Cs.fits_of h L u)), hc.ti⟩
theorem KInv.take {x : CX} (h : KInv x) {L : Texts} {u : Int} (ht : TInv L u) (dr : Bool) (n : Nat) : KInv (Cs.take dr ⟨x, L, u⟩ n).cx ∧ TInv (Cs.take dr ⟨x, L, u⟩ n).L (Cs.take dr ⟨x, L, u⟩ n).u := by
  have hc := (h.csi ht).take dr n
  exact ⟨kinv_of hc (fits_take dr _ n), hc.ti⟩

theorem cs_got_id (dr : Bool) (x : Cs) (l : List UInt8) : (x.got dr l).cx.id = x.cx.id := by
  unfold Cs.got Cs.admit
  have h := cs_reads_id dr (l.take (x.ate dr l)) x
  split
  · exact h
  · exact h
theorem cs_take_id (dr : Bool) (x : Cs) (n : Nat) : (x.take dr n).cx.id = x.cx.id := by
  unfold Cs.take
  exact cs_got_id dr _ _

set_option maxHeartbeats 800000 in
set_option maxRecDepth 100000 in
theorem data_any {N : Nat} {F : Nat → Prop} {Fs : Int → Nat → Prop} {w : World} {S : Nat} {p : Ps} {x : Xs} (h : Hid (Sv N F Fs w S p x)) {id : Int} {c : Nat} {cx : CX} (hg : Hid (aget x.K id = some (c, cx))) (bs : ByteArray) (hb : bs.size ≤ 140737488355328) :
    Calls Tryz.prog 19 #[.pointer (some ⟨S, 0, none⟩), .int .i64 id, .string bs] w fun e w' => e = .returned (.int .i64 (Cs.gets x.dr ⟨cx, x.L, x.u⟩ bs.data.toList : Nat)) ∧ SvX N F w w' S p (x.after id (Cs.got x.dr ⟨cx, x.L, x.u⟩ bs.data.toList)) := by
  have c0 : w.cell? ⟨S, 0, none⟩ = some (.map (some p.cm)) := cell_of_heap h.out.srv.blk 0
  have hlook := h.out.cms.look id
  rw [aget_kmap, hg.out] at hlook
  simp only [Option.map_some, Option.getD_some, Option.isSome_some] at hlook
  unfold ptrV at hlook
  have he := aget_mem hg.out
  obtain ⟨dv, uv, ov, hc⟩ := h.out.cn _ he
  have hk := h.out.ki _ he
  obtain ⟨G, W, hw⟩ := h.out.wh
  have hid0 : cx.id = id := h.out.idk _ he
  have HR := receive_any (hid hc) (hid h.out.srv) (hid (h.out.lies he)) (hid (hk.csi h.out.ti)) hk.un bs hb (hid (h.out.by_ he hw)) (by rw [hid0]; exact List.mem_map.2 ⟨_, he, rfl⟩) (hid (by rw [hid0]; exact hw.set _ he))
  have HE : Hid (Calls Tryz.prog 48 #[.pointer (some ⟨S, 0, none⟩), .pointer (some ⟨c, 0, none⟩), .string bs] w fun e w' => e = .returned (.int .i64 (Cs.gets x.dr ⟨cx, x.L, x.u⟩ bs.data.toList : Nat)) ∧ SvX N F w w' S p (x.after id (Cs.got x.dr ⟨cx, x.L, x.u⟩ bs.data.toList))) := by
    refine HR.mono ?_
    rintro e w' ⟨rfl, hr⟩
    have hq := hk.got h.out.ti x.dr bs.data.toList
    exact ⟨rfl, h.out.upd hg.out hw hr ((cs_got_id _ _ _).trans hid0) hq.1 hq.2⟩
  clear HR hc hk he hw
  go_enter Tryz.func19, Tryz.ntmps19
  go_wp2_with fail
  refine HE.out.mono ?_
  rintro e w1 ⟨rfl, hs⟩
  have HS := hid hs
  clear hs hlook
  go_wp2
  go_ret
  exact ⟨rfl, HS.out⟩

set_option maxHeartbeats 800000 in
set_option maxRecDepth 100000 in
theorem data_none {N : Nat} {F : Nat → Prop} {Fs : Int → Nat → Prop} {w : World} {S : Nat} {p : Ps} {x : Xs} (h : Hid (Sv N F Fs w S p x)) {id : Int} (hg : Hid (aget x.K id = none)) (bs : ByteArray) :
    Calls Tryz.prog 19 #[.pointer (some ⟨S, 0, none⟩), .int .i64 id, .string bs] w fun e w' => e = .returned (.int .i64 0) ∧ Same w w' := by
  have c0 : w.cell? ⟨S, 0, none⟩ = some (.map (some p.cm)) := cell_of_heap h.out.srv.blk 0
  have hlook := h.out.cms.look id
  rw [aget_kmap, hg.out] at hlook
  simp only [Option.map_none, Option.getD_none, Option.isSome_none] at hlook
  go_enter Tryz.func19, Tryz.ntmps19
  go_wp2
  go_ret
  exact ⟨rfl, Upd.refl _ _⟩

set_option maxHeartbeats 800000 in
set_option maxRecDepth 100000 in
theorem open_any {N : Nat} {F : Nat → Prop} {Fs : Int → Nat → Prop} {w : World} {S : Nat} {p : Ps} {x : Xs} (h : Hid (Sv N F Fs w S p x)) (id : Int) :
    Calls Tryz.prog 16 #[.pointer (some ⟨S, 0, none⟩), .int .i64 id] w fun e w' => e = .returned (.bool (aget x.K id).isSome) ∧ Same w w' := by
  have c0 : w.cell? ⟨S, 0, none⟩ = some (.map (some p.cm)) := cell_of_heap h.out.srv.blk 0
  have hlook := h.out.cms.look id
  rw [aget_kmap] at hlook
  cases hg : aget x.K id with
  | none =>
    rw [hg] at hlook
    simp only [Option.map_none, Option.getD_none, Option.isSome_none] at hlook
    clear hg
    go_enter Tryz.func16, Tryz.ntmps16
    go_wp2
    go_ret
    exact ⟨rfl, Upd.refl _ _⟩
  | some q =>
    rw [hg] at hlook
    simp only [Option.map_some, Option.getD_some, Option.isSome_some] at hlook
    unfold ptrV at hlook
    clear hg
    go_enter Tryz.func16, Tryz.ntmps16
    go_wp2
    go_ret
    exact ⟨rfl, Upd.refl _ _⟩

theorem Cm.erase {w : World} {cm : Nat} {K : List (Int × Nat)} (h : Cm w cm K) (id : Int) (ty : TypeId) : ∃ W, (Builtin.delete_ #[55, 3] ty #[.map (some cm), .int .i64 id]).run Tryz.prog w = .ok (.tuple #[]) W ∧ Cm W cm (adel K id) ∧ Upd (fun k => k = cm) w W := by
  obtain ⟨es, clock, h3, h4, h4b⟩ := h
  obtain ⟨es', h5, h6⟩ := run_delete_born (P := Tryz.prog) (w := w) ty Tryz.und55 Tryz.und3' int_key int_inj h3 h4 h4b id
  exact ⟨_, h5, ⟨es', clock, (MapKept.heap_set h3).1, h6⟩, Upd.setObj _⟩

theorem mem_adelK {K : Ks} {id : Int} {e : Int × Nat × CX} (he : e ∈ K) (hne : e.1 ≠ id) : e ∈ adel K id := by
  induction K with
  | nil => cases he
  | cons p K ih =>
    unfold adel aidx at ih ⊢
    rw [List.findIdx_cons]
    by_cases hp : p.1 = id
    · have e1 : (p.1 == id) = true := by simpa using hp
      rw [e1]
      rcases List.mem_cons.1 he with rfl | h1
      · exact absurd hp hne
      · exact h1
    · have e1 : (p.1 == id) = false := by simpa using hp
      rw [e1]
      show e ∈ p :: K.eraseIdx _
      rcases List.mem_cons.1 he with rfl | h1
      · exact .head _
      · exact .tail _ (ih h1)
theorem adel_ne {K : Ks} (hn : (K.map (·.1)).Nodup) {id : Int} {e : Int × Nat × CX} (he : e ∈ adel K id) : e.1 ≠ id := by
  induction K with
  | nil => cases he
  | cons p K ih =>
    rw [List.map_cons, List.nodup_cons] at hn
    unfold adel aidx at ih he
    rw [List.findIdx_cons] at he
    by_cases hp : p.1 = id
    · have e1 : (p.1 == id) = true := by simpa using hp
      rw [e1] at he
      have he' : e ∈ K := he
      intro hq
      exact hn.1 (by rw [hp, ← hq]; exact List.mem_map.2 ⟨e, he', rfl⟩)
    · have e1 : (p.1 == id) = false := by simpa using hp
      rw [e1] at he
      have he' : e ∈ p :: K.eraseIdx (K.findIdx fun q => q.1 == id) := he
      rcases List.mem_cons.1 he' with rfl | h1
      · exact hp
      · exact ih hn.2 h1

/-- A connection is gone, and its deadlines. -/
theorem Sv.closed {N : Nat} {F : Nat → Prop} {Fs : Int → Nat → Prop} {w w1 w2 : World} {S : Nat} {p : Ps} {x : Xs} (h : Sv N F Fs w S p x) (id : Int) (hu : Upd (fun k => k = p.cm) w w1) (hc : Cm w1 p.cm (adel (kmap x.K) id)) {G : Nat → Prop} {W : Wst} (hw : WSv F Fs w S p x.K G W) (hst : StA G w1 w2 p.wb (W.forget id 4)) : SvX N F w w2 S p (x.gone id) := by
  obtain ⟨G2, k1, k2, k3⟩ := hst
  have hne := h.nes
  have hS := h.low S h.own.1
  have hsub : ∀ e ∈ adel x.K id, e ∈ x.K := fun e he => adel_sub he
  have U : Upd (fun k => k = p.cm ∨ G k) w w2 := (hu.mono (fun _ _ h => Or.inl h)).trans (k2.mono (fun _ _ h => Or.inr h))
  have hsz := U.size
  have hsz1 := hu.size
  have hsz2 := k2.size
  have hMF : ∀ k, (k = p.cm ∨ G k) → F k := by
    rintro k (rfl | h1)
    · exact h.own.2.2.2
    · exact hw.gF k h1
  have hGo : ∀ k, k < w.heap.size → ¬ G k → ¬ G2 k := fun k hk hn e => by
    rcases k3 k e with h4 | h4
    · exact hn h4
    · omega
  obtain ⟨f1, f2, f3⟩ := hw.wf.forgetN id 4
  have hlt : ∀ f ∈ x.K, ∀ k, Fs f.1 k → k < w.heap.size := fun f hf k hk => (h.low k (h.sub f hf k hk)).2
  refine ⟨fun k => F k ∨ (w.heap.size ≤ k ∧ k < w2.heap.size), Fs, ⟨h.srv.keep U ?_ ?_ ?_, ?_, ?_, ?_, fun e he k hk => Or.inl (h.sub e (hsub e he) k hk), fun e he f hf => h.dis e (hsub e he) f (hsub f hf), ⟨Or.inl h.own.1, Or.inl h.own.2.1, Or.inl h.own.2.2.1, Or.inl h.own.2.2.2⟩, fun e he => h.off e (hsub e he), h.ne, ?_, ?_, fun e he => h.ki e (hsub e he), h.ti, fun e he => h.ids e (hsub e he), ?_, ⟨G2, W.forget id 4, k1, ?_, ?_, ?_, ?_, ?_⟩, fun e he => h.idk e (hsub e he)⟩, U.mono (fun k _ e => hMF k e), fun k hk => hk⟩
  · rintro (e | e)
    · exact hne.2 e.symm
    · exact hw.gS.1 e
  · rintro (e | e)
    · exact hne.1 e.symm
    · exact hw.gS.2.1 e
  · rintro (e | e)
    · exact h.ne e.symm
    · exact hw.gS.2.2.1 e
  · show Cm w2 p.cm (kmap (adel x.K id))
    rw [← adel_kmap]; exact hc.keep k2 hw.gS.2.2.2
  · have hs : List.Sublist ((adel x.K id).map (·.1)) (x.K.map (·.1)) := (List.eraseIdx_sublist _ _).map _
    exact hs.nodup h.nd
  · intro e he
    obtain ⟨dv, uv, ov, hq⟩ := h.cn e (hsub e he)
    refine ⟨dv, uv, ov, hq.keep U ?_⟩
    rintro k hk (rfl | h1)
    · exact (h.off e (hsub e he)).2.2.2 hk
    · exact hw.gd e (hsub e he) k hk h1
  · rintro k (hk | hk)
    · have := h.low k hk; omega
    · omega
  · exact h.tb.keep (U.below (by omega) (fun k hk e => by have := h.low _ (hMF k e); omega))
  · have : (adel x.K id).length ≤ x.K.length := (List.eraseIdx_sublist _ _).length_le
    have := h.few
    show (adel x.K id).length ≤ 4
    omega
  · refine hw.wf.forgot id (fun i hi hne => ?_)
    obtain ⟨e, he, rfl⟩ := List.mem_map.1 hi
    exact List.mem_map.2 ⟨e, mem_adelK he hne, rfl⟩
  · intro e he i hi
    rw [f2.2 (e.1, (i : Int)) (adel_ne h.nd he)]
    exact hw.set e (hsub e he) i hi
  · intro k hk
    rcases k3 k hk with h4 | h4
    · exact Or.inl (hw.gF k h4)
    · right; omega
  · exact fun e he k hk => hGo k (hlt e (hsub e he) k hk) (hw.gd e (hsub e he) k hk)
  · exact ⟨hGo _ (h.low _ h.own.1).2 hw.gS.1, hGo _ (h.low _ h.own.2.1).2 hw.gS.2.1, hGo _ (h.low _ h.own.2.2.1).2 hw.gS.2.2.1, hGo _ (h.low _ h.own.2.2.2).2 hw.gS.2.2.2⟩

set_option maxHeartbeats 800000 in
set_option maxRecDepth 100000 in
theorem close_any {N : Nat} {F : Nat → Prop} {Fs : Int → Nat → Prop} {w : World} {S : Nat} {p : Ps} {x : Xs} (h : Hid (Sv N F Fs w S p x)) (id : Int) :
    Calls Tryz.prog 50 #[.pointer (some ⟨S, 0, none⟩), .int .i64 id] w fun e w' => e = .returned (.tuple #[]) ∧ SvX N F w w' S p (x.gone id) := by
  have c0 : w.cell? ⟨S, 0, none⟩ = some (.map (some p.cm)) := cell_of_heap h.out.srv.blk 0
  obtain ⟨W1, hW1, hc, hu⟩ := h.out.cms.erase id 0
  obtain ⟨G, W, hw⟩ := h.out.wh
  have HF : Hid (CallsD Tryz.prog 75 #[.pointer (some ⟨S, 0, none⟩), .int .i64 id] .returning W1 fun e u' w' => u' = .returning ∧ (e = .returned (.tuple #[]) ∧ SvX N F w w' S p (x.gone id))) := by
    have hSn : ¬ S = p.cm := fun e => h.out.nes.2 e.symm
    have hb := hu.keep h.out.srv.blk hSn
    refine (forget_any .returning id (hid ⟨lt_of_heap hb, cell_of_heap hb 4⟩) (hid (hw.at_.keep hu (fun k hk e => hw.gS.2.2.2 (e ▸ hk)))) (hid hw.wf) (by rw [List.length_map]; have := h.out.few; omega) (hid hw.gS.1)).mono ?_
    rintro e u' w' ⟨rfl, rfl, hst⟩
    exact ⟨rfl, rfl, h.out.closed id hu hc hw hst⟩
  clear hc hu hw h
  go_enter_defers Tryz.func50, Tryz.ntmps50
  go_wp2
  refine leaves_cons (f := 75) (args := #[.pointer (some ⟨S, 0, none⟩), .int .i64 id]) (by simp) (by simp [invoke]) ?_
  refine HF.out.mono ?_
  rintro e u' w' ⟨rfl, rfl, hs⟩
  exact ⟨.tuple #[], by simp [results, Tryz.results50, go_sem], rfl, hs⟩

set_option maxHeartbeats 800000 in
set_option maxRecDepth 100000 in
theorem shut_any {N : Nat} {F : Nat → Prop} {Fs : Int → Nat → Prop} {w : World} {S : Nat} {p : Ps} {x : Xs} (h : Hid (Sv N F Fs w S p x)) (id : Int) :
    Calls Tryz.prog 31 #[.pointer (some ⟨S, 0, none⟩), .int .i64 id] w fun e w' => e = .returned (.tuple #[]) ∧ SvX N F w w' S p (x.gone id) := by
  go_enter Tryz.func31, Tryz.ntmps31
  go_wp2_with fail
  refine (close_any h id).mono ?_
  rintro e w1 ⟨rfl, hs⟩
  have HS := hid hs
  clear hs
  go_wp2
  exact bodyPost_end (v := .tuple #[]) (by simp [results, Tryz.results31, go_sem]) rfl ⟨rfl, HS.out⟩

end Go.Proofs.YtiiapfkcmdkkoaaGreatDoor
