import Derived.Test.YtohoddhegkjehaaGreatDoorG4
import Derived.Test.YtohoddhegkjehaaGreatDoorI3
import Derived.Deep.LoopGhost
/-
  held, kept; the store's Used.
-/
namespace Go.Proofs.YtohoddhegkjehaaGreatDoor
open Go.RowKit Go.MapKept

set_option maxHeartbeats 400000 in
theorem restingHeld (w : World) : Calls Tryz.prog 99 #[.agg #[]] w fun e w' => e = .returned (.int .i64 0) ∧ Same w w' := by
  go_enter Tryz.func99, Tryz.ntmps99
  go_wp2
  go_ret
  exact ⟨rfl, by first | exact Upd.refl _ w | exact (Upd.refl _ w).alloc _⟩
set_option maxHeartbeats 400000 in
theorem leavingHeld (w : World) : Calls Tryz.prog 171 #[.agg #[]] w fun e w' => e = .returned (.int .i64 0) ∧ Same w w' := by
  go_enter Tryz.func171, Tryz.ntmps171
  go_wp2
  go_ret
  exact ⟨rfl, by first | exact Upd.refl _ w | exact (Upd.refl _ w).alloc _⟩
set_option maxHeartbeats 400000 in
theorem count_any {F : Nat → Prop} {w : World} {r : Nat} {σ : RS} (h : Hid (Rd F w r σ)) : Calls Tryz.prog 175 #[.pointer (some ⟨r, 0, none⟩)] w fun e w' => e = .returned (.int .i64 σ.count) ∧ Same w w' := by
  obtain ⟨sv, ⟨R, hB⟩, _⟩ := h.out
  have c1 : w.cell? ⟨r, 1, none⟩ = some (.int .i64 σ.count) := hB.cell 1
  clear hB
  go_enter Tryz.func175, Tryz.ntmps175
  go_wp2
  go_ret
  exact ⟨rfl, Upd.refl _ w⟩
set_option maxHeartbeats 400000 in
theorem readingHeld {F : Nat → Prop} {w : World} {r : Nat} {σ : RS} (h : Hid (Rd F w r σ)) : Calls Tryz.prog 176 #[.agg #[.pointer (some ⟨r, 0, none⟩)]] w fun e w' => e = .returned (.int .i64 σ.count) ∧ Same w w' := by
  have hU0 : Same w (w.alloc (.cells #[.pointer (some ⟨r, 0, none⟩)] 150)) := (Upd.refl _ w).alloc _
  have HC : Hid (∀ W, Same w W → Calls Tryz.prog 175 #[.pointer (some ⟨r, 0, none⟩)] W fun e w' => e = .returned (.int .i64 σ.count) ∧ Same W w') := fun W hW => count_any (hid (h.out.keep hW (fun _ _ h => h)))
  have HU0 := hid hU0
  clear hU0
  go_enter Tryz.func176, Tryz.ntmps176
  go_wp2_with fail
  refine Calls.mono (HC.out _ (by first | exact HU0.out | exact Upd.refl _ _)) ?_
  rintro e w1 ⟨rfl, hu1⟩
  have HU1 : Hid (Same w w1) := by first | exact HU0.out.trans hu1 | exact hu1
  clear hu1
  go_wp2
  go_ret
  exact ⟨rfl, HU1.out⟩

/-- A call of a method of an interface's value, without arguments, as one step of a region that draws. -/
theorem step_invoke0 {ops : Array Oper} {o : Oper} {a : Act} {w : World} {K : Act → World → Prop} {Q : Exit → Act → World → Prop} {E : Prop} {f : Nat} {ty : TypeId} {rv : Value} {nm : String} {ts : Array TypeId} (R : Value → World → Prop)
    (hg : o.guard = none) (x : Operand) (hop : o.op = Op.call { callee := Callee.invoke x nm, args := #[], argTypes := ts }) (hx : a.eval x = .iface ty rv) (hm : ∀ W : World, (method 321 ty rv nm).run Tryz.prog W = .ok (f, rv) W) (hent : Ent f)
    (hc : Calls Tryz.prog f #[rv] w fun e w' => ∃ r, e = .returned r ∧ R r w') (hK : ∀ r w', R r w' → K (a.put o.dst r) w') :
    if Region.wanted o (yielded ops a.tmps) = true then Oper.wp Tryz.prog o a w K Q else E := by
  have hw : Region.wanted o (yielded ops a.tmps) = true := by simp [Region.wanted, hg]
  rw [if_pos hw]
  have hrun : (execOp a.eval o).run Tryz.prog w = .ok (.enter f #[rv]) w := by
    have he := hent #[rv] w
    have hm' := hm w
    have hcm : (callMethod (.iface ty rv) nm #[]).run Tryz.prog w = .ok (.enter f #[rv]) w := by
      simp [callMethod, Made.depth, hm', he, Result.andThen]
    simp [execOp, hop, resolve, invoke, hx, hcm]
  unfold Oper.wp
  rw [hrun, Oper.upon_enter]
  refine hc.mono ?_
  rintro e w' ⟨r, rfl, hR⟩
  exact hK r w' hR
theorem ent39 : Ent 39 := enters_of Tryz.func39 (by kernel_rfl) rfl

/-- What a connection keeps of a request that is not over. -/
def CX.held (x : CX) : Nat := if x.kind = 1 then x.σ.count else 0
def CX.kept (x : CX) : Nat := x.held + x.unread.length + x.out.length

def Hel (w : World) (dv : Value) (n : Nat) : Prop := ∃ ty rv f, dv = .iface ty rv ∧ (∀ W : World, (method 321 ty rv "hearth/hearth.held").run Tryz.prog W = .ok (f, rv) W) ∧ Ent f ∧ ∀ W, Same w W → Calls Tryz.prog f #[rv] W fun e w' => e = .returned (.int .i64 n) ∧ Same W w'
theorem held_calls {F : Nat → Prop} {w : World} {c : Nat} {x : CX} {dv uv ov : Value} (h : Cn F w c x dv uv ov) : Hel w dv x.held := by
  unfold CX.held
  rcases h.doing with ⟨h1, rfl⟩ | ⟨h1, h2, h3, r, Fr, rfl, h5, h6⟩ | ⟨h1, rfl⟩
  · rw [if_neg (by omega)]
    exact ⟨_, _, 99, rfl, fun W => by kernel_rfl, enters_of Tryz.func99 (by kernel_rfl) rfl, fun W _ => restingHeld W⟩
  · rw [if_pos h1]
    exact ⟨_, _, 176, rfl, fun W => by kernel_rfl, enters_of Tryz.func176 (by kernel_rfl) rfl, fun W hW => readingHeld (hid (h5.keep hW (fun _ _ h => h)))⟩
  · rw [if_neg (by omega)]
    exact ⟨_, _, 171, rfl, fun W => by kernel_rfl, enters_of Tryz.func171 (by kernel_rfl) rfl, fun W _ => leavingHeld W⟩

set_option maxHeartbeats 800000 in
set_option maxRecDepth 100000 in
theorem kept_any {F : Nat → Prop} {w : World} {c : Nat} {x : CX} {dv uv ov : Value} (h : Hid (Cn F w c x dv uv ov)) (h1 : x.held ≤ 1000000) (h2 : x.unread.length ≤ 1000000) (h3 : x.out.length ≤ 1000000) :
    Calls Tryz.prog 22 #[.pointer (some ⟨c, 0, none⟩)] w fun e w' => e = .returned (.int .i64 x.kept) ∧ Same w w' := by
  obtain ⟨c0, c1, c2, f0, f1, f2⟩ := h.out.blk'
  obtain ⟨ty, rv, f, rfl, hm, hent, hc⟩ := held_calls h.out
  have HC := hid hc
  have HK : Hid ((x.kept : Int) = x.held + x.unread.length + x.out.length) := by show _ = _; unfold CX.kept; omega
  clear hc
  rw [HK.out]
  generalize x.held = n at *
  have HS1 : Hid (∀ W, Same w W → Calls Tryz.prog 39 #[.pointer (some ⟨c, 1, none⟩)] W fun e w' => e = .returned (.int .i64 x.unread.length) ∧ Same W w') := fun W hW => qsize_any (hid (h.out.keep hW (fun _ _ h => h)).quUn)
  have HS2 : Hid (∀ W, Same w W → Calls Tryz.prog 39 #[.pointer (some ⟨c, 2, none⟩)] W fun e w' => e = .returned (.int .i64 x.out.length) ∧ Same W w') := fun W hW => qsize_any (hid (h.out.keep hW (fun _ _ h => h)).quOut)
  have HC1 := hid (Calls.ret (HC.out w.drew (Upd.refl _ w).drew))
  clear HC
  generalize x.unread.length = lu at *
  generalize x.out.length = lo at *
  go_enter Tryz.func22, Tryz.ntmps22
  go_wp2_with fail
  go_region_law (
    (first
      | (refine step_invoke0 (ty := ty) (rv := rv) _ rfl (.tmp 6) rfl (by first | rfl | simp [Act.eval]) hm hent HC1.out ?_
         rintro r w1 ⟨rfl, hu⟩
         have hu1 : Same w w1 := (Upd.refl _ w).drew.trans hu
         have HU1 := hid hu1
         have HQ1 := hid (Calls.ret (HS1.out w1 hu1))
         clear hu hu1)
      | (refine step_call1 (v := .pointer (some ⟨c, 1, none⟩)) _ rfl (.tmp 11) rfl ent39 (by first | rfl | simp [Act.eval]) HQ1.out ?_
         rintro r w2 ⟨rfl, hu⟩
         have hu2 : Same w w2 := HU1.out.trans hu
         have HU2 := hid hu2
         have HQ2 := hid (Calls.ret (HS2.out w2 hu2))
         clear hu hu2)
      | (refine step_call1 (v := .pointer (some ⟨c, 2, none⟩)) _ rfl (.tmp 17) rfl ent39 (by first | rfl | simp [Act.eval]) HQ2.out ?_
         rintro r w3 ⟨rfl, hu⟩
         have HU3 := hid (HU2.out.trans hu)
         clear hu)))
  all_goals
    go_wp2
    go_ret
    exact ⟨by first | rfl | exact ret_int (by rw [IntWalk.i64_in (↑n + ↑lu) (by omega), IntWalk.i64_in _ (by omega)]), HU3.out⟩

set_option maxHeartbeats 400000 in
theorem storeUsed_any {w : World} {s m : Nat} {L : Texts} {u : Int} (h : Hid (Sto w s m L u)) : Calls Tryz.prog 21 #[.pointer (some ⟨s, 0, none⟩)] w fun e w' => e = .returned (.int .i64 u) ∧ Same w w' := by
  have c1 : w.cell? ⟨s, 1, none⟩ = some (.int .i64 u) := cell_of_heap h.out.blk 1
  go_enter Tryz.func21, Tryz.ntmps21
  go_wp2
  go_ret
  exact ⟨rfl, Upd.refl _ w⟩

end Go.Proofs.YtohoddhegkjehaaGreatDoor

/-
  Used.
-/
namespace Go.Proofs.YtohoddhegkjehaaGreatDoor
open Go.RowKit Go.MapKept

def sumSeen (f : MapEntry → Int) : List MapEntry → Array Nat → Int
  | [], _ => 0
  | x :: l, seen => (if seen.contains x.born then f x else 0) + sumSeen f l seen
def withVal (f : MapEntry → Int) (e : MapEntry) : MapEntry := { e with val := .int .i64 (f e) }
theorem sumSeen_eq (f : MapEntry → Int) (seen : Array Nat) : ∀ l : List MapEntry, sumSeen f l seen = seenSum (l.map (withVal f)) seen
  | [] => rfl
  | x :: l => by simp only [sumSeen, List.map_cons, seenSum, sumSeen_eq f seen l]; rfl
theorem withVal_born (f : MapEntry → Int) (l : List MapEntry) : (l.map (withVal f)).map (·.born) = l.map (·.born) := by
  rw [List.map_map]; rfl
theorem sumSeen_push (f : MapEntry → Int) (l : List MapEntry) (seen : Array Nat) (hn : (l.map (·.born)).Nodup) {e : MapEntry} (he : e ∈ l) (hs : seen.contains e.born = false) : sumSeen f l (seen.push e.born) = sumSeen f l seen + f e := by
  rw [sumSeen_eq, sumSeen_eq]
  have := seenSum_push seen (withVal f e) hs (l.map (withVal f)) (by rw [withVal_born]; exact hn) (List.mem_map.2 ⟨e, he, rfl⟩)
  exact this
theorem sumSeen_none (f : MapEntry → Int) (l : List MapEntry) : sumSeen f l #[] = 0 := by rw [sumSeen_eq]; exact seenSum_none _
theorem sumSeen_full (f : MapEntry → Int) (seen : Array Nat) : ∀ (l : List MapEntry), (∀ x ∈ l, seen.contains x.born = true) → sumSeen f l seen = (l.map f).sum
  | [], _ => rfl
  | x :: l, h => by
    simp only [sumSeen, h x (List.mem_cons.2 (Or.inl rfl)), if_true, List.map_cons, List.sum_cons, sumSeen_full f seen l (fun y hy => h y (List.mem_cons.2 (Or.inr hy)))]
theorem sumSeen_le (f : MapEntry → Int) (seen : Array Nat) : ∀ (l : List MapEntry), (∀ x ∈ l, 0 ≤ f x) → 0 ≤ sumSeen f l seen ∧ sumSeen f l seen ≤ (l.map f).sum
  | [], _ => by simp [sumSeen]
  | x :: l, h => by
    have ih := sumSeen_le f seen l (fun y hy => h y (List.mem_cons.2 (Or.inr hy)))
    have := h x (List.mem_cons.2 (Or.inl rfl))
    simp only [sumSeen, List.map_cons, List.sum_cons]
    split <;> omega

/-- What the connection of a key keeps. -/
def keyKept (K : Ks) : Value → Int
  | .int _ id => match aget K id with | some q => (q.2.kept : Int) | none => 0
  | _ => 0
def keptSum (K : Ks) : Int := (K.map fun e => (e.2.2.kept : Int)).sum

theorem ents_keys {es : Array MapEntry} {K : Ks} (he : Ents (Value.int .i64) ptrV es (kmap K)) : es.toList.map (·.key) = K.map (fun e => Value.int .i64 e.1) := by
  have := congrArg (List.map Prod.fst) he
  rw [List.map_map, List.map_map] at this
  unfold kmap at this
  rw [List.map_map] at this
  exact this
theorem sum_keys {es : Array MapEntry} {K : Ks} (he : Ents (Value.int .i64) ptrV es (kmap K)) (hn : (K.map (·.1)).Nodup) : (es.toList.map (fun e => keyKept K e.key)).sum = keptSum K := by
  have h1 : es.toList.map (fun e => keyKept K e.key) = (es.toList.map (·.key)).map (keyKept K) := by rw [List.map_map]; rfl
  rw [h1, ents_keys he, List.map_map]
  unfold keptSum
  congr 1
  apply List.map_congr_left
  intro e hm
  show keyKept K (.int .i64 e.1) = _
  unfold keyKept
  simp only
  rw [mem_aget hn hm]
theorem ents_entry {es : Array MapEntry} {K : Ks} (he : Ents (Value.int .i64) ptrV es (kmap K)) {e : MapEntry} (hm : e ∈ es.toList) : ∃ k ∈ K, e.key = .int .i64 k.1 ∧ e.val = .pointer (some ⟨k.2.1, 0, none⟩) := by
  have : (e.key, e.val) ∈ (kmap K).map (fun p => (Value.int .i64 p.1, ptrV p.2)) := by rw [← he]; exact List.mem_map.2 ⟨e, hm, rfl⟩
  obtain ⟨q, hq, h1⟩ := List.mem_map.1 this
  obtain ⟨k, hk, rfl⟩ := List.mem_map.1 hq
  injection h1 with h2 h3
  exact ⟨k, hk, h2.symm, h3.symm⟩

theorem kept_le {x : CX} (h : KInv x) : x.kept ≤ 3000 := by
  have h1 := h.un
  have h2 := h.out
  have h3 := h.ci.rd.count h.ci.tag
  unfold CX.kept CX.held
  split <;> omega
theorem held_le {x : CX} (h : KInv x) : x.held ≤ 1000000 := by
  have h3 := h.ci.rd.count h.ci.tag
  unfold CX.held
  split <;> omega
theorem keptSum_le : ∀ {K : Ks}, (∀ e ∈ K, KInv e.2.2) → 0 ≤ keptSum K ∧ keptSum K ≤ 3000 * K.length
  | [], _ => by simp [keptSum]
  | e :: K, h => by
    have ih := keptSum_le (K := K) (fun f hf => h f (List.mem_cons.2 (Or.inr hf)))
    have := kept_le (h e (List.mem_cons.2 (Or.inl rfl)))
    unfold keptSum at ih ⊢
    simp only [List.map_cons, List.sum_cons, List.length_cons]
    omega

/-- What stands between two rounds over the connections. -/
structure UsedAt (w wr : World) (r cm : Nat) (es : Array MapEntry) (clock : Nat) (seen : Array Nat) : Prop where
  same : Same w wr
  iter : wr.heap[r]? = some (.mapIter (some cm) clock seen clock)
  lt : w.heap.size ≤ r

theorem UsedAt.next {w wr w1 : World} {r cm : Nat} {es : Array MapEntry} {clock : Nat} {seen : Array Nat} (h : UsedAt w wr r cm es clock seen) (h1 : w1 = wr ∨ w1 = wr.drew) (b : Nat) : UsedAt w (ChangeMaps.setBlock w1 r (.mapIter (some cm) clock (seen.push b) clock)) r cm es clock (seen.push b) := by
  have hlt := lt_of_heap h.iter
  have U1 : Same w w1 := by
    rcases h1 with rfl | rfl
    · exact h.same
    · exact h.same.drew
  have hl1 : r < w1.heap.size := by rcases h1 with rfl | rfl <;> exact hlt
  refine ⟨⟨U1.os, U1.tape, U1.output, ?_, fun k hk hn => ?_⟩, ?_, h.lt⟩
  · show w.heap.size ≤ (w1.heap.setIfInBounds r _).size
    rw [Array.size_setIfInBounds]; exact U1.size
  · show (w1.heap.setIfInBounds r _)[k]? = _
    rw [Array.getElem?_setIfInBounds_ne (by have := h.lt; omega)]
    exact U1.block k hk hn
  · show (w1.heap.setIfInBounds r _)[r]? = _
    rw [Array.getElem?_setIfInBounds_self_of_lt hl1]
theorem UsedAt.same' {w wr w1 : World} {r cm : Nat} {es : Array MapEntry} {clock : Nat} {seen : Array Nat} (h : UsedAt w wr r cm es clock seen) (hu : Same wr w1) : UsedAt w w1 r cm es clock seen := ⟨h.same.trans hu, hu.keep h.iter (fun h => h), h.lt⟩

set_option maxHeartbeats 1600000 in
set_option maxRecDepth 100000 in
theorem used_any {N : Nat} {F : Nat → Prop} {Fs : Int → Nat → Prop} {w : World} {S : Nat} {p : Ps} {x : Xs} (h : Hid (Sv N F Fs w S p x)) :
    Calls Tryz.prog 12 #[.pointer (some ⟨S, 0, none⟩)] w fun e w' => e = .returned (.int .i64 (x.u + keptSum x.K)) ∧ Same w w' := by
  have c0 : w.cell? ⟨S, 0, none⟩ = some (.map (some p.cm)) := cell_of_heap h.out.srv.blk 0
  have c3 : w.cell? ⟨S, 3, none⟩ = some (.pointer (some ⟨p.s, 0, none⟩)) := cell_of_heap h.out.srv.blk 3
  obtain ⟨es, clock, hmap, hents, hborn⟩ := h.out.cms
  have HM := hid hmap
  have HEn := hid hents
  have HB := hid hborn
  have hu1 := h.out.ti.low
  have hu2 := h.out.ti.most
  clear hmap hents hborn
  go_enter Tryz.func12, Tryz.ntmps12
  go_wp2_with fail
  refine (storeUsed_any (hid h.out.srv.sto)).mono ?_
  rintro e w1 ⟨rfl, hu⟩
  have d0 : w1.cell? ⟨S, 0, none⟩ = some (.map (some p.cm)) := (hu.cell (lt_of_heap h.out.srv.blk) (fun h => h)).trans c0
  have hr := run_range_map (P := Tryz.prog) w1 46 3 51 p.cm es clock Tryz.und46 (hu.keep HM.out (fun h => h))
  have HU := hid hu
  clear hu c0 c3
  have HT : Hid (0 ≤ keptSum x.K ∧ keptSum x.K ≤ 12000) := by
    have := keptSum_le h.out.ki
    have := h.out.few
    show _ ∧ _
    omega
  have HS0 := hid (sum_keys HEn.out h.out.nd)
  have HI0 : Hid (UsedAt w (w1.alloc (.mapIter (some p.cm) clock #[] clock)) w1.heap.size p.cm es clock #[]) := ⟨HU.out.alloc _, heap_alloc_new w1 _, HU.out.size⟩
  go_wp2_with fail
  generalize w1.alloc (.mapIter (some p.cm) clock #[] clock) = w2 at *
  generalize w1.heap.size = r at *
  clear hr d0 HU
  go_loopg [3] es.size (fun g uv wr => ∃ seen : Array Nat, uv = .int .i64 (x.u + sumSeen (fun e => keyKept x.K e.key) es.toList seen) ∧ (leftOf es seen).size ≤ g ∧ Hid (UsedAt w wr r p.cm es clock seen))
  case atStart =>
    refine ⟨#[], ?_, ?_, HI0⟩
    · rw [sumSeen_none]; simp
    · unfold leftOf; exact Array.size_filter_le
  case round =>
    obtain ⟨seen, rfl, hleft, hat⟩ := hrel
    clear HI0
    have hpos := sumSeen_le (fun e => keyKept x.K e.key) seen es.toList (by
      intro e _
      show 0 ≤ keyKept x.K e.key
      unfold keyKept
      split
      · split <;> omega
      · omega)
    rw [HS0.out] at hpos
    have hT := HT.out
    rcases run_next_at (P := Tryz.prog) wr 0 r p.cm clock clock seen es clock hat.out.iter (hat.out.same.keep HM.out (fun h => h)) HB.out.lt (Nat.le_refl _) with ⟨h0, hnext⟩ | ⟨e, he, wn, hwn, hnext⟩
    · have HE : Hid (x.u + sumSeen (fun e => keyKept x.K e.key) es.toList seen = x.u + keptSum x.K ∧ Same w wr) := by
        refine ⟨?_, hat.out.same⟩
        rw [sumSeen_full _ _ _ (all_seen es seen h0), HS0.out]
      clear hat h0 hleft
      generalize sumSeen (fun e => keyKept x.K e.key) es.toList seen = sm at *
      go_wp2
      go_ret
      exact ⟨by rw [← HE.out.1]; rfl, HE.out.2⟩
    · have hm := mem_left he
      obtain ⟨k, hk, hkey, hval⟩ := ents_entry HEn.out hm.1
      have hat1 := hat.out.next hwn e.born
      generalize hW : ChangeMaps.setBlock wn r (.mapIter (some p.cm) clock (seen.push e.born) clock) = W at hnext hat1
      have hent := run_entry_at (P := Tryz.prog) W r p.cm clock seen es clock e hat1.iter (hat1.same.keep HM.out (fun h => h)) hm.1 HB.out.nd
      have hp := sumSeen_push (fun e => keyKept x.K e.key) es.toList seen HB.out.nd hm.1 hm.2
      have hkk : keyKept x.K e.key = k.2.2.kept := by rw [hkey]; unfold keyKept; simp only; rw [mem_aget h.out.nd hk]
      have hkl := kept_le (h.out.ki k hk)
      have hsv := h.out.same hat1.same
      obtain ⟨dv, uv', ov, hcn⟩ := hsv.cn k hk
      have HKp := hid (kept_any (hid hcn) (held_le (h.out.ki k hk)) (by have := (h.out.ki k hk).un; omega) (by have := (h.out.ki k hk).out; omega))
      have hshr := left_shrinks es seen e he
      have HP : Hid (sumSeen (fun e => keyKept x.K e.key) es.toList (seen.push e.born) = sumSeen (fun e => keyKept x.K e.key) es.toList seen + k.2.2.kept) := by
        show _ = _
        rw [hp, hkk]
      have HA := hid hat1
      rw [hkey, hval] at hnext hent
      clear hW hwn hcn hsv hp hkk he hm hat hkey hval hat1
      generalize hsm : sumSeen (fun e => keyKept x.K e.key) es.toList seen = sm at *
      clear hsm
      go_wp2_with fail
      refine HKp.out.mono ?_
      rintro e' w3 ⟨rfl, hu3⟩
      have HA3 := hid (HA.out.same' hu3)
      clear hu3
      go_wp2_with fail
      go_roundg (leftOf es (seen.push e.born)).size
      case measure => omega
      case rel =>
        refine ⟨seen.push e.born, ?_, Nat.le_refl _, HA3⟩
        rw [HP.out, ← Int.add_assoc]

end Go.Proofs.YtohoddhegkjehaaGreatDoor
