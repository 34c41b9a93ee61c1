import Derived.Test.YtiiapfkcmdkkoaaGreatDoorQ12
/-
  Rows of deadlines.
-/
namespace Go.Proofs.YtiiapfkcmdkkoaaGreatDoor
open Go.RowKit Go.MapKept

def dlCells (ds : List Dl) : List Value := ds.flatMap dlC
theorem dlCells_nil : dlCells [] = [] := rfl
theorem dlCells_cons (d : Dl) (ds : List Dl) : dlCells (d :: ds) = .int .i64 d.1 :: .int .i64 d.2 :: dlCells ds := rfl
theorem dlCells_app (a b : List Dl) : dlCells (a ++ b) = dlCells a ++ dlCells b := by unfold dlCells; rw [List.flatMap_append]
theorem dlCells_len (ds : List Dl) : (dlCells ds).length = ds.length * 2 := by
  induction ds with
  | nil => rfl
  | cons d ds ih => rw [dlCells_cons]; simp only [List.length_cons, ih]; omega
theorem dlCells_take : ∀ (ds : List Dl) (i : Nat), (dlCells ds).take (i * 2) = dlCells (ds.take i)
  | [], i => by simp [dlCells_nil]
  | d :: ds, 0 => by simp [dlCells_nil]
  | d :: ds, i + 1 => by
    rw [dlCells_cons, show (i + 1) * 2 = i * 2 + 1 + 1 by omega, List.take_succ_cons, List.take_succ_cons, dlCells_take ds i, List.take_succ_cons, dlCells_cons]
theorem dlCells_get : ∀ (ds : List Dl) (j : Nat) (d : Dl), ds[j]? = some d → (dlCells ds)[j * 2]? = some (.int .i64 d.1) ∧ (dlCells ds)[j * 2 + 1]? = some (.int .i64 d.2)
  | [], j, d, h => by simp at h
  | a :: ds, 0, d, h => by
    simp only [List.getElem?_cons_zero, Option.some.injEq] at h
    subst h
    rw [dlCells_cons]
    exact ⟨rfl, rfl⟩
  | a :: ds, j + 1, d, h => by
    rw [dlCells_cons, show (j + 1) * 2 = j * 2 + 1 + 1 by omega]
    simp only [List.getElem?_cons_succ]
    exact dlCells_get ds j d (by simpa using h)
theorem dlCells_set : ∀ (ds : List Dl) (j : Nat) (d : Dl), ((dlCells ds).set (j * 2) (.int .i64 d.1)).set (j * 2 + 1) (.int .i64 d.2) = dlCells (ds.set j d)
  | [], j, d => by simp [dlCells_nil]
  | a :: ds, 0, d => rfl
  | a :: ds, j + 1, d => by
    rw [dlCells_cons, show (j + 1) * 2 = j * 2 + 1 + 1 by omega]
    simp only [List.set_cons_succ]
    rw [dlCells_set ds j d, dlCells_cons]
theorem dl_one (ds : List Dl) : ∀ u ∈ dlCells ds, u.oneCell' = true := by
  intro u hu
  unfold dlCells at hu
  obtain ⟨d, _, h⟩ := List.mem_flatMap.1 hu
  unfold dlC at h
  rcases List.mem_cons.1 h with rfl | h
  · rfl
  · rcases List.mem_cons.1 h with rfl | h
    · rfl
    · cases h

/-- A row of deadlines of our own. -/
def DRow (w : World) (v : Value) (ds : List Dl) : Prop := w.ownsRow 0 62 2 v ds.length (dlCells ds)
theorem DRow.nil (w : World) : DRow w (.slice none 0 0) [] := World.ownsRow_nil w 0 _ 2
theorem DRow.keep {M : Nat → Prop} {w w' : World} {v : Value} {ds : List Dl} (h : DRow w v ds) (hu : Upd M w w') (hm : ∀ k, v.ownBlock = some k → ¬ M k) : DRow w' v ds := by
  refine ⟨h.1, ?_⟩
  rcases h.2 with h2 | ⟨g, cap, cur, hv, hg, hh, r⟩
  · exact Or.inl h2
  · exact Or.inr ⟨g, cap, cur, hv, hg, hu.keep hh (hm g (by rw [hv]; rfl)), r⟩
theorem DRow.lt {w : World} {v : Value} {ds : List Dl} (h : DRow w v ds) : ∀ k, v.ownBlock = some k → k < w.heap.size := fun k hk => (World.ownsRow.lt h k hk).2
theorem DRow.block {w : World} {v : Value} {ds : List Dl} (h : DRow w v ds) : ∀ k, v.ownBlock = some k → ∃ cur, w.heap[k]? = some (.cells cur 62 (0, 0)) := by
  intro k hk
  rcases h.2 with ⟨h1, _⟩ | ⟨g, cap, cur, hv, _, hh, _⟩
  · rw [h1] at hk; cases hk
  · rw [hv] at hk; cases hk; exact ⟨cur, hh⟩
theorem DRow.far {w : World} {v : Value} {ds : List Dl} (h : DRow w v ds) {b : Nat} {c : Array Value} {t : TypeId} {fz : Nat × Nat} (hb : w.heap[b]? = some (.cells c t fz)) (ht : t ≠ 62) : v.ownBlock ≠ some b := by
  intro e
  obtain ⟨cur, h1⟩ := h.block b e
  rw [hb] at h1
  injection h1 with h1
  injection h1 with _ h2
  exact ht h2
theorem DRow.farM {w : World} {v : Value} {ds : List Dl} (h : DRow w v ds) {b : Nat} {es : Array MapEntry} {cl : Nat} (hb : w.heap[b]? = some (.map es cl)) : v.ownBlock ≠ some b := by
  intro e
  obtain ⟨cur, h1⟩ := h.block b e
  rw [hb] at h1
  cases h1

theorem infoDl : ∃ i z, Tryz.prog.info? 62 = some i ∧ i.zero = some z ∧ i.size = 2 ∧ i.bytes = 16 ∧ z.cells.size = 2 := by
  have h : (Tryz.prog.info? 62).map (fun i => (i.zero, i.size, i.bytes)) = some (some (.agg #[.int .i64 0, .int .i64 0]), 2, 16) := by kernel_rfl
  cases hi : Tryz.prog.info? 62 with
  | none => rw [hi] at h; cases h
  | some i =>
    rw [hi] at h
    simp only [Option.map_some, Option.some.injEq, Prod.mk.injEq] at h
    exact ⟨i, _, rfl, h.1, h.2.1, h.2.2, rfl⟩
theorem undDls : Tryz.prog.underlying 96 = some (.slice 62) := by kernel_rfl
theorem zeroDl (w : World) : (zeroValue 62).run Tryz.prog w = .ok (.agg #[.int .i64 0, .int .i64 0]) w := by kernel_rfl

/-- append onto a row of deadlines: what comes, and where it lies. -/
theorem run_append_dl (w : World) (ty : TypeId) (v : Value) (ds : List Dl) (hown : DRow w v ds) (a : Addr) (c : Nat) (d : Dl) (hc0 : w.cell? a = some (.int .i64 d.1)) (hc1 : w.cell? (a.add 1) = some (.int .i64 d.2)) (hb : ds.length ≤ 1000000) :
    ∃ v' w', (Builtin.append_ #[96, 96] ty #[v, .slice (some a) 1 c]).run Tryz.prog w = .ok v' w' ∧ DRow w' v' (ds ++ [d]) ∧ w.grownBy w' v.ownBlock ∧ (∀ k, v'.ownBlock = some k → v.ownBlock = some k ∨ w.heap.size ≤ k) := by
  obtain ⟨i, z, hi, hz, hsize, hby, hzs⟩ := infoDl
  have h63 : ds.length + 1 ≤ maxLen := by unfold maxLen; omega
  have hl' : (dlC d).length = 1 * 2 := rfl
  have hnews : ∀ j u, (dlC d)[j]? = some u → w.cell? (a.add j) = some u := by
    intro j u hu
    unfold dlC at hu
    match j with
    | 0 => simp only [List.getElem?_cons_zero, Option.some.injEq] at hu; subst hu; rw [show a.add 0 = a by unfold Addr.add; simp]; exact hc0
    | 1 => simp only [List.getElem?_cons_succ, List.getElem?_cons_zero, Option.some.injEq] at hu; subst hu; exact hc1
    | j + 2 => simp at hu
  have h1 : ∀ u ∈ dlC d, u.oneCell' = true := fun u hu => dl_one [d] u (by unfold dlCells; simpa using hu)
  have hap : dlCells (ds ++ [d]) = dlCells ds ++ dlC d := by rw [dlCells_app]; unfold dlCells; simp
  obtain ⟨v', w', hr, ho, hg, hn⟩ := run_append_own (P := Tryz.prog) w 0 96 ty 62 i z 2 16 undDls hi hz hsize hby hzs (by decide) v ds.length (dlCells ds) hown a 1 c (dlC d) hl' hnews h1 h63 (by omega) (Nat.zero_le _)
  refine ⟨v', w', hr, ?_, hg, ?_⟩
  · unfold DRow; rw [hap, List.length_append]; exact ho
  · intro k hk
    rcases hown.2 with ⟨hv, hz0⟩ | ⟨g, cap, cur, hv, _, hh, hnc, hcm, hcs, htake⟩
    · right
      subst hv
      have hbs : ds = [] := List.eq_nil_of_length_eq_zero hz0
      subst hbs
      obtain ⟨v2, w2, hr2, ho2, _⟩ := run_append_own (P := Tryz.prog) w w.heap.size 96 ty 62 i z 2 16 undDls hi hz hsize hby hzs (by decide) (.slice none 0 0) 0 [] (World.ownsRow_nil _ _ _ _) a 1 c (dlC d) hl' hnews h1 (by simpa using h63) (by omega) (Nat.le_refl _)
      rw [hr] at hr2
      cases hr2
      exact (World.ownsRow.lt ho2 k hk).1
    · by_cases hroom : ds.length + 1 ≤ cap
      · left
        have hr2 := run_append_room (P := Tryz.prog) w 96 ty 62 i undDls hi g ds.length cap cur hh a 1 c (dlC d) (by rw [hsize]; exact hl') hnews h1 hroom (by rw [hsize, hl', hcs]; omega)
        rw [hv] at hr
        rw [hr] at hr2
        cases hr2
        rw [hv]
        exact hk
      · right
        have holds := World.ownsRow.cells hown (g := g) (by rw [hv]; rfl)
        obtain ⟨v2, w2, hr2, ho2, _⟩ := run_append_arg_grows (P := Tryz.prog) w 96 ty 62 i z 2 16 undDls hi hz hsize hby hzs (by decide) ⟨g, 0, none⟩ ds.length cap (dlCells ds) (dlCells_len ds) holds a 1 c (dlC d) hl' hnews (by omega) h63 (by omega)
        rw [hv] at hr
        rw [hr] at hr2
        cases hr2
        exact (World.ownsRow.lt ho2 k hk).1

end Go.Proofs.YtiiapfkcmdkkoaaGreatDoor

/-
  The wheel's states.
-/
namespace Go.Proofs.YtiiapfkcmdkkoaaGreatDoor
open Go.RowKit Go.MapKept

section
variable {β : Type}
theorem aidx_cons_eq {p : Dl × β} {L : List (Dl × β)} {a : Dl} (h : p.1 = a) : aidx (p :: L) a = 0 := by simp [aidx, List.findIdx_cons, h]
theorem aidx_cons_ne {p : Dl × β} {L : List (Dl × β)} {a : Dl} (h : p.1 ≠ a) : aidx (p :: L) a = aidx L a + 1 := by
  have hb : (p.1 == a) = false := by simpa using h
  simp [aidx, List.findIdx_cons, hb]
theorem aget_consA {p : Dl × β} {L : List (Dl × β)} {a : Dl} : aget (p :: L) a = if p.1 = a then some p.2 else aget L a := by
  unfold aget
  split
  · rename_i h; rw [aidx_cons_eq h]; rfl
  · rename_i h; rw [aidx_cons_ne h]; rfl
theorem aget_noneA {L : List (Dl × β)} {a : Dl} : aget L a = none ↔ ∀ p ∈ L, p.1 ≠ a := by
  induction L with
  | nil => constructor; intro _ p hp; cases hp; intro _; rfl
  | cons q L ih =>
    rw [aget_consA]
    constructor
    · intro h
      split at h
      · cases h
      · rename_i hq
        intro p hp
        rcases List.mem_cons.1 hp with rfl | hp
        · exact hq
        · exact ih.1 h p hp
    · intro h
      rw [if_neg (h q (.head _)), ih.2 (fun p hp => h p (.tail _ hp))]
theorem aget_mem' {L : List (Dl × β)} {a : Dl} {b : β} (h : aget L a = some b) : (a, b) ∈ L := by
  unfold aget at h
  obtain ⟨p, hp, rfl⟩ := Option.map_eq_some_iff.1 h
  have := (aidx_lt_of hp).2
  rw [← this]
  exact List.mem_of_getElem? hp
theorem mem_aget' {L : List (Dl × β)} (hn : (L.map (·.1)).Nodup) {a : Dl} {b : β} (h : (a, b) ∈ L) : aget L a = some b := by
  induction L with
  | nil => cases h
  | cons p L ih =>
    rw [List.map_cons, List.nodup_cons] at hn
    rw [aget_consA]
    rcases List.mem_cons.1 h with rfl | h1
    · rw [if_pos rfl]
    · have hp : p.1 ≠ a := fun eq => hn.1 (eq ▸ List.mem_map.2 ⟨(a, b), h1, rfl⟩)
      rw [if_neg hp]
      exact ih hn.2 h1
theorem adel_consA {p : Dl × β} {L : List (Dl × β)} {a : Dl} : adel (p :: L) a = if p.1 = a then L else p :: adel L a := by
  unfold adel
  split
  · rename_i h; rw [aidx_cons_eq h]; rfl
  · rename_i h; rw [aidx_cons_ne h]; rfl
theorem mem_adel {L : List (Dl × β)} (hn : (L.map (·.1)).Nodup) {a : Dl} {p : Dl × β} : p ∈ adel L a ↔ p ∈ L ∧ p.1 ≠ a := by
  induction L with
  | nil =>
    constructor
    · intro h; cases h
    · rintro ⟨h, _⟩; cases h
  | cons q L ih =>
    rw [List.map_cons, List.nodup_cons] at hn
    rw [adel_consA]
    split
    · rename_i hq
      constructor
      · intro h
        exact ⟨.tail _ h, fun e => hn.1 (by rw [hq, ← e]; exact List.mem_map.2 ⟨p, h, rfl⟩)⟩
      · rintro ⟨h, h2⟩
        rcases List.mem_cons.1 h with rfl | h
        · exact absurd hq h2
        · exact h
    · rename_i hq
      rw [List.mem_cons, ih hn.2, List.mem_cons]
      constructor
      · rintro (rfl | h)
        · exact ⟨Or.inl rfl, hq⟩
        · exact ⟨Or.inr h.1, h.2⟩
      · rintro ⟨rfl | h, h2⟩
        · exact Or.inl rfl
        · exact Or.inr ⟨h, h2⟩
theorem adel_nd {L : List (Dl × β)} (hn : (L.map (·.1)).Nodup) (a : Dl) : ((adel L a).map (·.1)).Nodup := ((List.eraseIdx_sublist _ _).map _).nodup hn
theorem aget_adel {L : List (Dl × β)} (hn : (L.map (·.1)).Nodup) (a b : Dl) : aget (adel L a) b = if b = a then none else aget L b := by
  have hd := adel_nd hn a
  split
  · rename_i h
    subst h
    exact aget_noneA.2 (fun p hp => ((mem_adel hn).1 hp).2)
  · rename_i h
    cases hb : aget L b with
    | none => exact aget_noneA.2 (fun p hp => aget_noneA.1 hb p ((mem_adel hn).1 hp).1)
    | some v => exact mem_aget' hd ((mem_adel hn).2 ⟨aget_mem' hb, h⟩)
theorem aput_absent {L : List (Dl × β)} {a : Dl} (b : β) (h : aget L a = none) : aput L a b = L ++ [(a, b)] := by
  have h1 : aidx L a = L.length := by
    unfold aidx
    rw [List.findIdx_eq_length]
    intro p hp
    have := aget_noneA.1 h p hp
    simpa using this
  unfold aput
  rw [h1, if_neg (Nat.lt_irrefl _)]
theorem aget_appA {L : List (Dl × β)} {a : Dl} {b : β} (h : aget L a = none) (c : Dl) : aget (L ++ [(a, b)]) c = if c = a then some b else aget L c := by
  induction L with
  | nil =>
    show aget [(a, b)] c = _
    rw [aget_consA]
    by_cases e : c = a
    · rw [if_pos e.symm, if_pos e]
    · rw [if_neg (fun x => e x.symm), if_neg e]
  | cons p L ih =>
    rw [aget_consA] at h
    have hp : p.1 ≠ a := fun e => by rw [if_pos e] at h; cases h
    rw [if_neg hp] at h
    rw [List.cons_append, aget_consA, aget_consA, ih h]
    by_cases e : c = a
    · rw [if_neg (fun x => hp (x.trans e)), if_pos e, if_pos e]
    · rw [if_neg e, if_neg e]
end

theorem nodup_le {α : Type} [BEq α] [LawfulBEq α] : ∀ (l m : List α), l.Nodup → (∀ x ∈ l, x ∈ m) → l.length ≤ m.length
  | [], _, _, _ => Nat.zero_le _
  | a :: l, m, hn, hs => by
    rw [List.nodup_cons] at hn
    have ha : a ∈ m := hs a (.head _)
    have h1 := nodup_le l (m.erase a) hn.2 (fun x hx => (List.mem_erase_of_ne (fun e : x = a => hn.1 (by rw [← e]; exact hx))).2 (hs x (.tail _ hx)))
    rw [List.length_erase_of_mem ha] at h1
    have := List.length_pos_of_mem ha
    simp only [List.length_cons]
    omega

/-- The wheel: its slots, its hand, where each deadline stands. -/
structure Wst where
  slots : Nat → List Dl
  hand : Nat
  mp : List (Dl × Nat)

def Wst.new : Wst := ⟨fun _ => [], 0, []⟩
def Wst.clear (W : Wst) (d : Dl) : Wst := match aget W.mp d with
  | none => W
  | some j => ⟨fun i => if i = j then (W.slots j).filter (fun o => !(o == d)) else W.slots i, W.hand, adel W.mp d⟩
def Wst.set (W : Wst) (d : Dl) (t : Nat) : Wst :=
  ⟨fun i => if i = (W.hand + t) % 32 then (W.clear d).slots ((W.hand + t) % 32) ++ [d] else (W.clear d).slots i, W.hand, aput (W.clear d).mp d ((W.hand + t) % 32)⟩

/-- What holds of it; I: whose deadlines there may be. -/
structure WF (I : List Int) (W : Wst) : Prop where
  hand : W.hand < 32
  nd : (W.mp.map (·.1)).Nodup
  fwd : ∀ d j, (d, j) ∈ W.mp → j < 32 ∧ d ∈ W.slots j
  bwd : ∀ j, j < 32 → ∀ d ∈ W.slots j, (d, j) ∈ W.mp
  sn : ∀ j, j < 32 → (W.slots j).Nodup
  key : ∀ d j, (d, j) ∈ W.mp → d.1 ∈ I ∧ 0 ≤ d.2 ∧ d.2 < 4
  dist : ∀ d j, (d, j) ∈ W.mp → ∃ r, 1 ≤ r ∧ r ≤ 20 ∧ j = (W.hand + r) % 32

theorem WF.new (I : List Int) : WF I Wst.new := ⟨by decide, List.nodup_nil, (fun _ _ h => by cases h), (fun _ _ _ h => by cases h), (fun _ _ => List.nodup_nil), (fun _ _ h => by cases h), (fun _ _ h => by cases h)⟩
theorem WF.mono {I J : List Int} {W : Wst} (h : WF I W) (hs : ∀ i ∈ I, i ∈ J) : WF J W := ⟨h.hand, h.nd, h.fwd, h.bwd, h.sn, fun d j hd => ⟨hs _ (h.key d j hd).1, (h.key d j hd).2⟩, h.dist⟩

theorem WF.few {I : List Int} {W : Wst} (h : WF I W) {j : Nat} (hj : j < 32) : (W.slots j).length ≤ I.length * 4 := by
  have h1 := nodup_le (W.slots j) (I.flatMap fun i => [(i, 0), (i, 1), (i, 2), (i, 3)]) (h.sn j hj) (by
    intro d hd
    have hk := h.key d j (h.bwd j hj d hd)
    refine List.mem_flatMap.2 ⟨d.1, hk.1, ?_⟩
    obtain ⟨a, b⟩ := d
    simp only at hk
    have : b = 0 ∨ b = 1 ∨ b = 2 ∨ b = 3 := by omega
    rcases this with rfl | rfl | rfl | rfl <;> simp)
  have h2 : ∀ l : List Int, (l.flatMap fun i => [(i, (0 : Int)), (i, 1), (i, 2), (i, 3)]).length = l.length * 4 := by
    intro l
    induction l with
    | nil => rfl
    | cons a l ih => rw [List.flatMap_cons, List.length_append, ih]; simp; omega
  rw [h2] at h1
  exact h1

theorem clear_hand (W : Wst) (d : Dl) : (W.clear d).hand = W.hand := by unfold Wst.clear; split <;> rfl
theorem clear_get {I : List Int} {W : Wst} (h : WF I W) (d c : Dl) : aget (W.clear d).mp c = if c = d then none else aget W.mp c := by
  unfold Wst.clear
  split
  · rename_i hn
    split
    · rename_i e; rw [e]; exact hn
    · rfl
  · exact aget_adel h.nd d c
theorem WF.clear {I : List Int} {W : Wst} (h : WF I W) (d : Dl) : WF I (W.clear d) := by
  unfold Wst.clear
  split
  · exact h
  · rename_i j hj
    have hmem := aget_mem' hj
    have hsub : ∀ p, p ∈ adel W.mp d → p ∈ W.mp := fun p hp => ((mem_adel h.nd).1 hp).1
    refine ⟨h.hand, adel_nd h.nd d, fun c i hc => ?_, fun i hi c hc => ?_, fun i hi => ?_, fun c i hc => h.key c i (hsub _ hc), fun c i hc => h.dist c i (hsub _ hc)⟩
    · have h1 := (mem_adel h.nd).1 hc
      have h2 := h.fwd c i h1.1
      refine ⟨h2.1, ?_⟩
      show c ∈ if i = j then _ else _
      split
      · rename_i e
        subst e
        refine List.mem_filter.2 ⟨h2.2, ?_⟩
        have : c ≠ d := h1.2
        simpa using this
      · exact h2.2
    · have hc' : c ∈ if i = j then (W.slots j).filter (fun o => !(o == d)) else W.slots i := hc
      split at hc'
      · rename_i e
        subst e
        obtain ⟨h1, h2⟩ := List.mem_filter.1 hc'
        have h2' : c ≠ d := by simpa using h2
        exact (mem_adel h.nd).2 ⟨h.bwd i hi c h1, h2'⟩
      · rename_i e
        refine (mem_adel h.nd).2 ⟨h.bwd i hi c hc', fun e2 => e ?_⟩
        have e2' : c = d := e2
        subst e2'
        have := mem_aget' h.nd (h.bwd i hi c hc')
        rw [hj] at this
        injection this with this
        exact this.symm
    · show (if i = j then _ else _ : List Dl).Nodup
      split
      · exact (h.sn j (h.fwd d j hmem).1).filter _
      · exact h.sn i hi

theorem set_hand (W : Wst) (d : Dl) (t : Nat) : (W.set d t).hand = W.hand := rfl
theorem set_get {I : List Int} {W : Wst} (h : WF I W) (d : Dl) (t : Nat) (c : Dl) : aget (W.set d t).mp c = if c = d then some ((W.hand + t) % 32) else aget W.mp c := by
  have hn : aget (W.clear d).mp d = none := by rw [clear_get h]; exact if_pos rfl
  show aget (aput (W.clear d).mp d _) c = _
  rw [aput_absent _ hn, aget_appA hn, clear_get h]
  split <;> rfl
theorem WF.set {I : List Int} {W : Wst} (h : WF I W) (d : Dl) (t : Nat) (h1 : 1 ≤ t) (h20 : t ≤ 20) (hI : d.1 ∈ I) (h0 : 0 ≤ d.2) (h4 : d.2 < 4) : WF I (W.set d t) := by
  have hc := h.clear d
  have hn : aget (W.clear d).mp d = none := by rw [clear_get h]; exact if_pos rfl
  have hno := aget_noneA.1 hn
  have e : (W.set d t).mp = (W.clear d).mp ++ [(d, (W.hand + t) % 32)] := aput_absent _ hn
  have hj : (W.hand + t) % 32 < 32 := Nat.mod_lt _ (by omega)
  have hmem : ∀ {p : Dl → Nat → Prop}, (∀ c i, (c, i) ∈ (W.clear d).mp → p c i) → p d ((W.hand + t) % 32) → ∀ c i, (c, i) ∈ (W.set d t).mp → p c i := by
    intro p ha hb c i hci
    rw [e] at hci
    rcases List.mem_append.1 hci with h2 | h2
    · exact ha c i h2
    · have : (c, i) = (d, (W.hand + t) % 32) := by simpa using h2
      injection this with e1 e2
      subst e1; subst e2; exact hb
  refine ⟨h.hand, ?_, hmem (fun c i hc' => ?_) ⟨hj, ?_⟩, fun i hi c hc' => ?_, fun i hi => ?_, hmem (fun c i hc' => hc.key c i hc') ⟨hI, h0, h4⟩, hmem (fun c i hc' => ?_) ⟨t, h1, h20, rfl⟩⟩
  · rw [e, List.map_append]
    refine List.nodup_append.2 ⟨hc.nd, by simp, ?_⟩
    intro a ha b hb
    obtain ⟨p, hp, rfl⟩ := List.mem_map.1 ha
    have : b = d := by simpa using hb
    rw [this]
    exact hno p hp
  · have h2 := hc.fwd c i hc'
    refine ⟨h2.1, ?_⟩
    show c ∈ if i = _ then _ else _
    split
    · rename_i e2; rw [← e2]; exact List.mem_append_left _ h2.2
    · exact h2.2
  · show d ∈ if _ = _ then _ else _
    rw [if_pos rfl]
    simp
  · rw [e]
    have hc2 : c ∈ if i = (W.hand + t) % 32 then (W.clear d).slots ((W.hand + t) % 32) ++ [d] else (W.clear d).slots i := hc'
    split at hc2
    · rename_i e2
      rcases List.mem_append.1 hc2 with h2 | h2
      · rw [e2]; exact List.mem_append_left _ (hc.bwd _ hj c h2)
      · have : c = d := by simpa using h2
        rw [this, e2]; simp
    · exact List.mem_append_left _ (hc.bwd i hi c hc2)
  · show (if i = _ then _ else _ : List Dl).Nodup
    split
    · refine List.nodup_append.2 ⟨hc.sn _ hj, by simp, ?_⟩
      intro a ha b hb
      have : b = d := by simpa using hb
      rw [this]
      exact hno _ (hc.bwd _ hj a ha)
    · exact hc.sn i hi
  · have := hc.dist c i hc'
    rw [clear_hand] at this
    exact this

end Go.Proofs.YtiiapfkcmdkkoaaGreatDoor
