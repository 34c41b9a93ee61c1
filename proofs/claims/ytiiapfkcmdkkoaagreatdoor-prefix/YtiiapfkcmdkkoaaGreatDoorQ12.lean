import Derived.Test.YtiiapfkcmdkkoaaGreatDoorQ01
import Derived.Test.YtiiapfkcmdkkoaaGreatDoorChecked
import Derived.Laws.StructEq
import Derived.Test.YtiiapfkcmdkkoaaGreatDoorQ11
/-
  Maps whose keys are structs: they are asked for by '=='.
-/
namespace Go.Proofs.YtiiapfkcmdkkoaaGreatDoor
open Go.RowKit Go.MapKept

theorem hid {p : Prop} (h : p) : Hid p := h
theorem alloc_at (w : World) (o : Obj) : (w.alloc o).heap[w.heap.size]? = some o := by
  have e : (w.alloc o).heap = w.heap.push o := rfl
  rw [e]; simp
abbrev Same (w w' : World) : Prop := Upd (fun _ => False) w w'

section
variable {α β : Type} [BEq α] [LawfulBEq α]

/-- Keys that are asked for by '=='. -/
structure Asked (P : Program) (kt : TypeId) (d : TypeDesc) (kv : α → Value) : Prop where
  und : P.underlying kt = some d
  now : ∀ a v, Instr.sameNow d (kv a) v = none
  chk : ∀ a e (w : World), (Instr.checkKey e 10000 kt (kv a)).run P w = .ok () w
  eql : ∀ a b (w : World), (Op.equal kt (kv a) (kv b)).run P w = .ok (a == b) w
  bits : ∀ a, Instr.sameBits 10000 (kv a) (kv a) = true

variable {kv : α → Value} {vv : β → Value} {d : TypeDesc}
variable {P : Program} {w : World} {t kt et : TypeId} {m : Nat} {es : Array MapEntry} {clock : Nat} {L : List (α × β)}

theorem findAsking_ents (hA : Asked P kt d kv) (a : α) (w : World) : ∀ (l : List MapEntry) (L : List (α × β)) (i : Nat), l.map (fun e => (e.key, e.val)) = L.map (fun p => (kv p.1, vv p.2)) →
    (Instr.findAsking kt (kv a) l i).run P w = .ok ((L[aidx L a]?).map fun p => (i + aidx L a, vv p.2)) w
  | [], [], i, _ => rfl
  | [], _ :: _, _, h => by simp at h
  | _ :: _, [], _, h => by simp at h
  | e :: l, p :: L, i, h => by
    simp only [List.map_cons, List.cons.injEq, Prod.mk.injEq] at h
    obtain ⟨⟨h1, h2⟩, h3⟩ := h
    have hr := hA.eql a p.1 w
    rw [← h1] at hr
    by_cases hp : p.1 = a
    · have hi : aidx (p :: L) a = 0 := by simp [aidx, List.findIdx_cons, hp]
      rw [hp] at hr
      simp [Instr.findAsking, hr, hi, h2, Result.andThen]
    · have hb : (p.1 == a) = false := by simpa using hp
      have hb' : (a == p.1) = false := by simpa using fun e => hp e.symm
      have hi : aidx (p :: L) a = aidx L a + 1 := by simp [aidx, List.findIdx_cons, hb]
      have ih := findAsking_ents hA a w l L (i + 1) h3
      rw [hb'] at hr
      rw [hi]
      simp only [List.getElem?_cons_succ]
      have e1 : (fun p : α × β => (i + (aidx L a + 1), vv p.2)) = fun p => (i + 1 + aidx L a, vv p.2) := by
        funext p; congr 1; omega
      rw [e1, ← ih]
      simp [Instr.findAsking, hr, Result.andThen]

theorem run_findKey_asked (hA : Asked P kt d kv) (a : α) (w : World) (l : List MapEntry) (L : List (α × β)) (h : l.map (fun e => (e.key, e.val)) = L.map (fun p => (kv p.1, vv p.2))) :
    (Instr.findKey kt (kv a) l).run P w = .ok ((L[aidx L a]?).map fun p => (aidx L a, vv p.2)) w := by
  have h0 := findAsking_ents hA a w l L 0 h
  simp only [Nat.zero_add] at h0
  cases l with
  | nil =>
    cases L with
    | nil => simp [Instr.findKey, run_underlying hA.und, Result.andThen, Instr.findNow]
    | cons p L => simp at h
  | cons e l =>
    rw [← h0]
    simp [Instr.findKey, run_underlying hA.und, Result.andThen, Instr.findNow, hA.now]

theorem run_lookup_asked (hA : Asked P kt d kv) (hm : P.underlying t = some (.map kt et)) {z : Value} (hz : (zeroValue et).run P w = .ok z w) (hb : w.heap[m]? = some (.map es clock)) (he : Ents kv vv es L) (a : α) :
    (Instr.lookup t (.map (some m)) (kv a) true).run P w = .ok (.tuple #[((aget L a).map vv).getD z, .bool (aget L a).isSome]) w := by
  have h1 := run_findKey_asked hA a w es.toList L he
  unfold aget
  cases hL : L[aidx L a]? with
  | none =>
    rw [hL] at h1
    simp [Instr.lookup, run_underlying hm, MapKept.run_getObj_map hb, hA.chk, h1, hz, Result.andThen]
  | some p =>
    rw [hL] at h1
    simp [Instr.lookup, run_underlying hm, MapKept.run_getObj_map hb, hA.chk, h1, Result.andThen]

theorem run_update_asked (hA : Asked P kt d kv) (hm : P.underlying t = some (.map kt et)) (hb : w.heap[m]? = some (.map es clock)) (he : Ents kv vv es L) (a : α) (b : β) :
    ∃ es' clock', (Instr.mapUpdate t (.map (some m)) (kv a) (vv b)).run P w = .ok () { w with heap := w.heap.setIfInBounds m (.map es' clock') } ∧ Ents kv vv es' (aput L a b) := by
  have h1 := run_findKey_asked hA a w es.toList L he
  cases hL : L[aidx L a]? with
  | none =>
    rw [hL] at h1
    have hge : ¬ aidx L a < L.length := by
      intro hlt
      rw [List.getElem?_eq_getElem hlt] at hL; cases hL
    refine ⟨es.push { key := kv a, val := vv b, born := clock }, clock + 1, ?_, ?_⟩
    · simp [Instr.mapUpdate, run_underlying hm, MapKept.run_getObj_map hb, hA.chk, h1, MapKept.run_setObj_map _ hb, Result.andThen]
    · unfold Ents aput
      rw [if_neg hge]
      simp only [Array.toList_push, List.map_append, List.map_cons, List.map_nil]
      rw [he]
  | some p =>
    rw [hL] at h1
    obtain ⟨hlt, hpa⟩ := aidx_lt_of hL
    have hj : ∃ e, es[aidx L a]? = some e ∧ e.key = kv a := by
      have h2 : (es.toList.map (fun e => (e.key, e.val)))[aidx L a]? = some (kv p.1, vv p.2) := by rw [he]; simp [hL]
      simp only [List.getElem?_map, Option.map_eq_some_iff, Array.getElem?_toList] at h2
      obtain ⟨e, h3, h4⟩ := h2
      refine ⟨e, h3, ?_⟩
      have := congrArg Prod.fst h4
      rw [hpa] at this
      exact this
    obtain ⟨e, hj, hke⟩ := hj
    have hst : (Instr.keyThatStays (kv a) (kv a)).run P w = .ok (kv a) w := by simp [Instr.keyThatStays, hA.bits]
    refine ⟨es.modify (aidx L a) (fun e => { e with key := kv a, val := vv b }), clock, ?_, ?_⟩
    · simp [Instr.mapUpdate, run_underlying hm, MapKept.run_getObj_map hb, hA.chk, h1, hj, hke, hst, MapKept.run_setObj_map _ hb, Result.andThen]
    · unfold Ents aput
      rw [if_pos hlt]
      apply List.ext_getElem?
      intro j
      have hej : (es.toList.map (fun e => (e.key, e.val)))[j]? = (L.map (fun p => (kv p.1, vv p.2)))[j]? := by rw [he]
      simp only [List.getElem?_map, Array.getElem?_toList, Array.getElem?_modify, List.getElem?_set] at hej ⊢
      by_cases hjj : aidx L a = j
      · subst hjj
        rw [if_pos rfl, if_pos rfl, if_pos hlt, hj]
        rfl
      · rw [if_neg hjj, if_neg hjj]
        exact hej

theorem run_delete_asked (hA : Asked P kt d kv) (ty : TypeId) (hm : P.underlying t = some (.map kt et)) (hb : w.heap[m]? = some (.map es clock)) (he : Ents kv vv es L) (a : α) :
    ∃ es', (Builtin.delete_ #[t, kt] ty #[.map (some m), kv a]).run P w = .ok (.tuple #[]) { w with heap := w.heap.setIfInBounds m (.map es' clock) } ∧ Ents kv vv es' (adel L a) := by
  have h1 := run_findKey_asked hA a w es.toList L he
  cases hL : L[aidx L a]? with
  | none =>
    rw [hL] at h1
    refine ⟨es, ?_, ?_⟩
    · simp [Builtin.delete_, run_underlying hm, MapKept.run_getObj_map hb, hA.chk, h1, MapKept.run_setObj_map _ hb, Result.andThen]
    · unfold adel
      rw [List.eraseIdx_of_length_le (by
        rcases Nat.lt_or_ge (aidx L a) L.length with h | h
        · rw [List.getElem?_eq_getElem h] at hL; cases hL
        · exact h)]
      exact he
  | some p =>
    rw [hL] at h1
    refine ⟨es.eraseIdxIfInBounds (aidx L a), ?_, ?_⟩
    · simp [Builtin.delete_, run_underlying hm, MapKept.run_getObj_map hb, hA.chk, h1, MapKept.run_setObj_map _ hb, Result.andThen]
    · unfold Ents adel
      rw [Array.toList_eraseIdxIfInBounds, map_erase, map_erase, he]

end

/-- A deadline: whose, and of which limit. -/
abbrev Dl := Int × Int
def dlC (d : Dl) : List Value := [.int .i64 d.1, .int .i64 d.2]
def dlV (d : Dl) : Value := .agg #[.int .i64 d.1, .int .i64 d.2]

theorem dl_eql (a b : Dl) (w : World) : (Op.equalIn 10000 62 (dlV a) (dlV b)).run Tryz.prog w = .ok (a == b) w := by
  have u1 : Tryz.prog.underlying 3 = some (.int .i64) := by kernel_rfl
  have u2 : Tryz.prog.underlying 60 = some (.int .i64) := by kernel_rfl
  have a1 : ∀ w, (isAgg 3).run Tryz.prog w = .ok false w := fun w => by kernel_rfl
  have a2 : ∀ w, (isAgg 60).run Tryz.prog w = .ok false w := fun w => by kernel_rfl
  have z1 : ∀ w, (sizeOf 3).run Tryz.prog w = .ok 1 w := fun w => by kernel_rfl
  have z2 : ∀ w, (sizeOf 60).run Tryz.prog w = .ok 1 w := fun w => by kernel_rfl
  have hS : Tryz.prog.underlying 62 = some (.struct (Tryz.prog.fieldsOf 62)) := by kernel_rfl
  have hp : Tryz.prog.stoodInHeld 62 = false := by kernel_rfl
  unfold dlV
  rw [show (10000 : Nat) = 9999 + 1 from rfl, run_equalIn_agg w 9999 62 _ _ hS hp]
  have hU : Tryz.prog.underlying 62 = some (.struct #[{ name := "id", type := 3, offset := 0, embedded := false, tag := "", pkgPath := "hearth/hearth", byteOffset := 0 }, { name := "of", type := 60, offset := 1, embedded := false, tag := "", pkgPath := "hearth/hearth", byteOffset := 8 }]) := by kernel_rfl
  simp only [Program.fieldsOf, hU]
  go_simp
  obtain ⟨a1, a2⟩ := a
  obtain ⟨b1, b2⟩ := b
  by_cases h1 : a1 = b1 <;> by_cases h2 : a2 = b2 <;> simp [h1, h2]

theorem dl_asked : Asked (α := Dl) Tryz.prog 62 (.struct #[{ name := "id", type := 3, offset := 0, embedded := false, tag := "", pkgPath := "hearth/hearth", byteOffset := 0 }, { name := "of", type := 60, offset := 1, embedded := false, tag := "", pkgPath := "hearth/hearth", byteOffset := 8 }]) dlV := {
  und := by kernel_rfl
  now := fun a v => rfl
  chk := fun a e w => by unfold dlV; kernel_rfl
  eql := fun a b w => by have := dl_eql a b w; simpa [Op.equal, Op.maxDepth] using this
  bits := fun a => by
    unfold dlV
    simp [Instr.sameBits] }
theorem undAt : Tryz.prog.underlying 104 = some (.map 62 3) := by kernel_rfl

end Go.Proofs.YtiiapfkcmdkkoaaGreatDoor

/-
  NewReader; what a connection does: read, listens.
-/
namespace Go.Proofs.YtiiapfkcmdkkoaaGreatDoor
open Go.RowKit Go.MapKept

def RS.zero : RS := ⟨0, 0, 0, 0, 0, 0, false, 0, [], [], [], [], false, 0, 0, [], []⟩
/-- A reader of which no byte was read. -/
def RS.start : RS := RS.zero.fresh 3

abbrev zeroR : Obj := .cells #[.nilFunc, .int .i64 0, .bool false, .int .i64 0, .slice none 0 0, .slice none 0 0, .slice none 0 0, .slice none 0 0, .bool false, .int .i64 0, .int .i64 0, .slice none 0 0, .slice none 0 0] 232

theorem zero_rdr (w : World) : RdrB (fun k => k = w.heap.size) (w.alloc zeroR) w.heap.size RS.zero .nilFunc (fun _ => .slice none 0 0) := {
  blk := by rw [hpush]; simp [RS.zero]
  row := by rintro f (rfl | rfl | rfl | rfl | rfl | rfl) <;> exact Row.nil _
  sep := by intro f g _ _ _ k hk; cases hk
  fr := rfl
  own := by intro f _ k hk; cases hk
  lt := by rintro k rfl; simp }

set_option maxHeartbeats 400000 in
theorem newReader_any (w : World) : Calls Tryz.prog 167 #[] w fun e w' => e = .returned (.pointer (some ⟨w.heap.size, 0, none⟩)) ∧ (∃ F', Rd F' w' w.heap.size RS.start ∧ ∀ k, F' k → w.heap.size ≤ k ∧ k < w'.heap.size) ∧ Upd (fun _ => False) w w' := by
  have HB : Hid (RdrB (fun k => k = w.heap.size) (w.alloc zeroR) w.heap.size RS.zero .nilFunc (fun _ => .slice none 0 0)) := zero_rdr w
  go_enter Tryz.func167, Tryz.ntmps167
  go_wp2_with fail
  refine Calls.mono (readMethod_makes HB.out) ?_
  rintro e w1 ⟨sv, rfl, hm⟩
  obtain ⟨F1, ⟨⟨R1, hB1⟩, hC1⟩, hU1, hf1⟩ := id hm
  have d0 : w1.cell? ⟨w.heap.size, 0, none⟩ = some .nilFunc := hB1.cell 0
  have g0 : w1.frozen? ⟨w.heap.size, 0, none⟩ = false := hB1.unfrozen 0
  obtain ⟨B, rfl, _⟩ : ∃ B, sv = cloV B ∧ _ := hC1
  have HE : Hid ((∃ F', Rd F' (w1.setCell ⟨w.heap.size, 0, none⟩ (cloV B)) w.heap.size RS.start ∧ ∀ k, F' k → w.heap.size ≤ k ∧ k < (w1.setCell ⟨w.heap.size, 0, none⟩ (cloV B)).heap.size) ∧ Upd (fun _ => False) w (w1.setCell ⟨w.heap.size, 0, none⟩ (cloV B))) := by
    obtain ⟨F2, h1, h2, h3⟩ := made_stored hm
    have hsz : ∀ o, (w.alloc o).heap.size = w.heap.size + 1 := fun o => by simp
    have q := h2.size
    rw [hsz] at q
    refine ⟨⟨F2, h1, fun k hk => ?_⟩, ⟨h2.os, h2.tape, h2.output, ?_, fun k hk _ => ?_⟩⟩
    · rcases h3 k hk with rfl | h4
      · exact ⟨Nat.le_refl _, by omega⟩
      · rw [hsz] at h4; omega
    · omega
    · rw [h2.block k (by rw [hsz]; omega) (by omega)]
      exact Below.heap_alloc _ _ _ hk
  clear hm hB1 hU1 hf1
  unfold cloV at *
  go_wp2
  go_ret
  exact ⟨rfl, HE.out⟩


/-- What a connection does while a request is not over: its head is over, or not. -/
def readingV (ho : Bool) (r : Nat) : Value := .iface (if ho then 144 else 143) (.agg #[.pointer (some ⟨r, 0, none⟩)])
def restingV : Value := .iface 67 (.agg #[])
def leavingV : Value := .iface 100 (.agg #[])

theorem Rd.lt {F : Nat → Prop} {w : World} {r : Nat} {σ : RS} (h : Rd F w r σ) : ∀ k, F k → k < w.heap.size := by
  obtain ⟨sv, ⟨R, hB⟩, _⟩ := h
  exact hB.lt

/-- What a byte that is read by a connection's reader leaves: r, the reader; e, what is answered. -/
def ReadStep (F : Nat → Prop) (w w' : World) (r : Nat) (σ' : RS) (e : Ending) : Prop :=
  ∃ F', Rd F' w' r σ' ∧ Upd F w w' ∧ (∀ k, F' k → F k ∨ (w.heap.size ≤ k ∧ k < w'.heap.size)) ∧
    ((σ'.tag ≠ 0 ∧ e = .returned (.tuple #[readingV σ'.headOver r, .pointer none])) ∨ (σ'.tag = 0 ∧ ∃ p, e = .returned (.tuple #[restingV, .pointer (some ⟨p, 0, none⟩)]) ∧ w'.heap[p]? = some (.cells (reqCells σ'.req) 160 (0, 0)) ∧ w.heap.size ≤ p ∧ p < w'.heap.size))

set_option maxHeartbeats 400000 in
theorem headIsOver_any {F : Nat → Prop} {w : World} {r : Nat} {σ : RS} (h : Hid (Rd F w r σ)) : Calls Tryz.prog 172 #[.pointer (some ⟨r, 0, none⟩)] w fun e w' => e = .returned (.bool σ.headOver) ∧ w' = w := by
  obtain ⟨sv, ⟨R, hB⟩, _⟩ := h.out
  have c1 : w.cell? ⟨r, 2, none⟩ = some (.bool σ.headOver) := hB.cell 2
  clear hB
  go_enter Tryz.func172, Tryz.ntmps172
  go_wp2
  go_ret
  exact ⟨rfl, rfl⟩

set_option maxHeartbeats 1600000 in
set_option maxRecDepth 100000 in
theorem readingRead_any {F : Nat → Prop} {w : World} {r : Nat} {σ : RS} (b : UInt8) (h : Hid (Rd F w r σ)) (g : Hid (Good σ)) (g2 : Hid (Good (σ.read b))) (h0 : σ.tag ≠ 0) (hct : σ.count ≤ 1000000000) :
    Calls Tryz.prog 168 #[.agg #[.pointer (some ⟨r, 0, none⟩)], .int .u8 b.toNat] w fun e w' => ReadStep F w w' r (σ.read b) e := by
  have hU0 : Upd (fun _ => False) w (w.alloc (.cells #[.pointer (some ⟨r, 0, none⟩)] 141)) := (Upd.refl _ w).alloc _
  have HR := hid (read_any (hid parse_hex) (h.out.keep hU0 (fun _ _ h => h)) g.out h0 hct b)
  have HU0 := hid hU0
  have HL := hid h.out.lt
  clear hU0 h g
  cases ht : decide ((σ.read b).tag = 0)
  · have ht' : (σ.read b).tag ≠ 0 := of_decide_eq_false ht
    rw [ht] at HR
    have HT := hid ht'
    clear ht ht'
    go_enter Tryz.func168, Tryz.ntmps168
    go_wp2_with fail
    refine HR.out.mono ?_
    rintro e w1 ⟨rfl, F1, hr1, hu1, hf1⟩
    have hn : ¬ F w.heap.size := fun e => absurd (HL.out _ e) (Nat.lt_irrefl _)
    have d0 : w1.cell? ⟨w.heap.size, 0, none⟩ = some (.pointer (some ⟨r, 0, none⟩)) := cell_of_heap (hu1.keep (alloc_at w _) hn) 0
    have HE : Hid (ReadStep F w w1 r (σ.read b) (.returned (.tuple #[readingV (σ.read b).headOver r, .pointer none]))) := by
      refine ⟨F1, hr1, (HU0.out.mono (fun _ _ h => h.elim)).trans hu1, fun k hk => ?_, Or.inl ⟨HT.out, rfl⟩⟩
      rcases hf1 k hk with h1 | h1
      · exact Or.inl h1
      · right; have := HU0.out.size; omega
    have HO := hid (headIsOver_any (hid hr1))
    clear hr1 hu1 hf1 hn
    go_wp2_with fail
    refine HO.out.mono ?_
    rintro e w2 ⟨rfl, rfl⟩
    clear HO
    cases hho : (σ.read b).headOver
    all_goals
      rw [hho] at HE
      unfold readingV at *
      go_wp2
      go_ret2
      exact HE.out
  · have ht' : (σ.read b).tag = 0 := of_decide_eq_true ht
    rw [ht] at HR
    have HT := hid ht'
    clear ht ht'
    go_enter Tryz.func168, Tryz.ntmps168
    go_wp2_with fail
    refine HR.out.mono ?_
    rintro e w1 ⟨rfl, F1, hr1, hu1, hf1⟩
    have hn : ¬ F w.heap.size := fun e => absurd (HL.out _ e) (Nat.lt_irrefl _)
    have d0 : w1.cell? ⟨w.heap.size, 0, none⟩ = some (.pointer (some ⟨r, 0, none⟩)) := cell_of_heap (hu1.keep (alloc_at w _) hn) 0
    have HR1 := hid hr1
    have HU1 := hid ((HU0.out.mono (fun _ _ h => h.elim)).trans hu1)
    have HF1 : Hid (∀ k, F1 k → F k ∨ (w.heap.size ≤ k ∧ k < w1.heap.size)) := by
      intro k hk
      rcases hf1 k hk with h1 | h1
      · exact Or.inl h1
      · right; have := HU0.out.size; omega
    clear hr1 hu1 hf1 hn
    go_wp2_with fail
    refine (request_any HR1 g2).mono ?_
    rintro e w2 ⟨rfl, hu2⟩
    have HE : Hid (ReadStep F w (w2.alloc (.cells (reqCells (σ.read b).req) 160)) r (σ.read b) (.returned (.tuple #[restingV, .pointer (some ⟨w2.heap.size, 0, none⟩)]))) := by
      have hU2 := hu2.alloc (.cells (reqCells (σ.read b).req) 160)
      have hsz := hU2.size
      have hsz1 := HU1.out.size
      have hsz2 := hu2.size
      refine ⟨F1, HR1.out.keep hU2 (fun _ _ h => h), HU1.out.trans (hU2.mono (fun _ _ h => h.elim)), fun k hk => ?_, Or.inr ⟨HT.out, _, rfl, by rw [hpush]; simp, by omega, by simp⟩⟩
      rcases HF1.out k hk with h1 | h1
      · exact Or.inl h1
      · right; omega
    clear hu2 d0
    unfold reqCells at *
    go_wp2
    go_ret2
    exact HE.out

end Go.Proofs.YtiiapfkcmdkkoaaGreatDoor
