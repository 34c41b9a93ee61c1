import Derived.Test.YtiiapfkcmdkkoaaGreatDoorQ16
/-
  The wheel: New, Set.
-/
namespace Go.Proofs.YtiiapfkcmdkkoaaGreatDoor
open Go.RowKit Go.MapKept

/-- append of a deadline onto a row, as one step of a region that draws. -/
theorem step_append_dl {ops : Array Oper} {o : Oper} {a : Act} {w : World} {K : Act → World → Prop} {Q : Exit → Act → World → Prop} {E : Prop}
    (hg : o.guard = none) (s x : Operand) (hop : o.op = Op.call { callee := Callee.builtin Builtin.append, args := #[s, x], argTypes := #[96, 96] })
    (v : Value) (ds : List Dl) (hs : a.eval s = v) (hown : DRow w v ds) (ad : Addr) (c : Nat) (d : Dl) (hx : a.eval x = .slice (some ad) 1 c) (hc0 : w.cell? ad = some (.int .i64 d.1)) (hc1 : w.cell? (ad.add 1) = some (.int .i64 d.2)) (hb : ds.length ≤ 1000000)
    (hK : ∀ v' w', DRow w' v' (ds ++ [d]) → w.grownBy w' v.ownBlock → (∀ k, v'.ownBlock = some k → v.ownBlock = some k ∨ w.heap.size ≤ k) → K (a.put o.dst v') w') :
    if Region.wanted o (yielded ops a.tmps) = true then Oper.wp Tryz.prog o a w K Q else E := by
  have hw : Region.wanted o (yielded ops a.tmps) = true := by simp [Region.wanted, hg]
  rw [if_pos hw]
  obtain ⟨v', w', hrun, r1, r2, r3⟩ := run_append_dl w o.type v ds hown ad c d hc0 hc1 hb
  unfold Oper.wp
  simp [execOp, hop, resolve, invoke, builtin, hs, hx, hrun, Result.andThen]
  exact hK v' w' r1 r2 r3

/-- A deadline comes into the map. -/
theorem Wh.join {G : Nat → Prop} {w : World} {wb : Nat} {W : Wst} {am : Nat} {sv : Nat → Value} {cs : Array Value} (h : Wh G w wb W am sv cs) {d : Dl} (hg : aget W.mp d = none) (j : Nat) :
    ∃ es clock, ∀ X, Same w X → (Instr.mapUpdate 104 (.map (some am)) (.agg #[.int .i64 d.1, .int .i64 d.2]) (.int .i64 j)).run Tryz.prog X = .ok () { X with heap := X.heap.setIfInBounds am (.map es clock) } ∧
      WAt G { X with heap := X.heap.setIfInBounds am (.map es clock) } wb { W with mp := aput W.mp d j } ∧ Upd G X { X with heap := X.heap.setIfInBounds am (.map es clock) } := by
  obtain ⟨es, clock, h1, h2⟩ := h.mp
  have hL : W.mp[aidx W.mp d]? = none := by
    unfold aget at hg
    simpa using hg
  refine ⟨es.push { key := dlV d, val := natV j, born := clock }, clock + 1, fun X hX => ?_⟩
  have hX1 := hX.keep h1 (fun h => h)
  have hk := run_findKey_asked (vv := natV) dl_asked d X es.toList W.mp h2
  rw [hL] at hk
  have hne : wb ≠ am := fun e => by have := h.blk; rw [e, h1] at this; cases this
  have U : Upd (fun k => k = am) X { X with heap := X.heap.setIfInBounds am (.map (es.push { key := dlV d, val := natV j, born := clock }) (clock + 1)) } := ⟨rfl, rfl, rfl, by simp, fun k hk hn => by simp [Ne.symm hn]⟩
  have hX2 := h.same hX
  refine ⟨?_, ⟨am, sv, cs, ?_⟩, U.mono (by rintro k _ rfl; exact h.ga)⟩
  · have hc := dl_asked.chk d
    unfold dlV at hk hc
    unfold dlV natV
    simp [Instr.mapUpdate, run_underlying undAt, MapKept.run_getObj_map hX1, hc, hk, MapKept.run_setObj_map _ hX1, Result.andThen]
  · refine ⟨U.keep hX2.blk hne, h.size, h.slot, h.hand, h.mapc, fun i hi => (hX2.row i hi).keep U ?_, ⟨_, clock + 1, (MapKept.heap_set hX1).1, ?_⟩, h.sep, h.gb, h.ga, h.gr, fun k hk => Nat.lt_of_lt_of_le (hX2.lt k hk) U.size⟩
    · rintro k hk rfl
      exact (hX2.row i hi).farM hX1 hk
    · show Ents dlV natV _ (aput W.mp d j)
      rw [aput_absent _ hg]
      unfold Ents
      simp only [Array.toList_push, List.map_append, List.map_cons, List.map_nil]
      rw [h2]

/-- Between the slot and the map. -/
def SetAt (G : Nat → Prop) (w wx : World) (wb : Nat) (W : Wst) (D : Nat) (d : Dl) : Prop := ∃ G', WAt G' wx wb W ∧ Boxed wx D d ∧ Upd G w wx ∧ (∀ k, G' k → G k ∨ (D < k ∧ k < wx.heap.size))

set_option maxHeartbeats 1600000 in
set_option maxRecDepth 100000 in
theorem set_any {G : Nat → Prop} {I : List Int} {w : World} {wb : Nat} {W : Wst} (h : Hid (WAt G w wb W)) (hf : Hid (WF I W)) (hI : I.length ≤ 1000) (d : Dl) (t : Nat) (ht : t ≤ 32) :
    Calls Tryz.prog 57 #[.pointer (some ⟨wb, 0, none⟩), .agg #[.int .i64 d.1, .int .i64 d.2], .int .i64 t] w fun e w' => e = .returned (.tuple #[]) ∧ ∃ G', WAt G' w' wb (W.set d t) ∧ Upd G w w' ∧ ∀ k, G' k → G k ∨ (w.heap.size ≤ k ∧ k < w'.heap.size) := by
  have HB := hid (bx_new w d)
  have HL := hid h.out.lt
  have HC := hid (clear_any (hid (h.out.keep HB.out.same (fun _ _ h => h))) (hid (fun d j hd => (hf.out.fwd d j hd).1)) (hid (fun j hj => by have := hf.out.few hj; omega)) d)
  have HF := hid (hf.out.clear d)
  have hh := hf.out.hand
  have HH := hid (clear_hand W d)
  clear h
  unfold boxD at *
  go_enter Tryz.func57, Tryz.ntmps57
  go_wp2_with fail
  refine HC.out.mono ?_
  rintro e w1 ⟨rfl, hw1, hu1⟩
  obtain ⟨am, sv, cs, hw⟩ := hw1
  have hDn : ¬ G w.heap.size := fun e => absurd (HL.out _ e) (Nat.lt_irrefl _)
  have hb1 : Boxed w1 w.heap.size d := HB.out.box.keep hu1 hDn
  have HU : Hid (Upd G w w1) := (HB.out.same.mono (fun _ _ h => h.elim)).trans hu1
  have hz1 : w.heap.size < w1.heap.size := lt_of_heap hb1
  generalize hDz : w.heap.size = D at *
  clear HC HB hu1
  have c32 : w1.cell? ⟨wb, 32, none⟩ = some (.int .i64 W.hand) := by rw [← HH.out]; exact (cell_of_heap hw.blk 32).trans hw.hand
  have HW := hid hw
  have HBx := hid hb1
  clear hw
  obtain ⟨j, hjd⟩ : ∃ j : Nat, j = (W.hand + t) % 32 := ⟨_, rfl⟩
  have hj : j < 32 := by rw [hjd]; exact Nat.mod_lt _ (by omega)
  have hjI : ((W.hand : Int) + (t : Int)).tmod 32 = (j : Int) := by
    rw [hjd, Int.tmod_eq_emod_of_nonneg (by omega)]
    omega
  have HJ := hid hjd
  clear hjd
  have hrow := HW.out.row j hj
  obtain ⟨ao, cp, hsv⟩ := hrow.slice
  have e0 : w1.cell? ⟨wb, j, none⟩ = some (sv j) := (cell_of_heap HW.out.blk j).trans (HW.out.slot j hj)
  have e1 : w1.frozen? ⟨wb, j, none⟩ = false := unfrozen_of_heap HW.out.blk j
  have b0 : w1.cell? ⟨D, 0, none⟩ = some (.int .i64 d.1) := cell_of_heap hb1 0
  have b1 : w1.cell? ⟨D, 1, none⟩ = some (.int .i64 d.2) := cell_of_heap hb1 1
  have hwbl := lt_of_heap HW.out.blk
  have hfew := HF.out.few hj
  have HEnd : Hid (∀ X w2 v', Same w1 X → DRow w2 v' ((W.clear d).slots j ++ [d]) → X.grownBy w2 (sv j).ownBlock → (∀ k, v'.ownBlock = some k → (sv j).ownBlock = some k ∨ X.heap.size ≤ k) → (w2.cell? ⟨wb, j, none⟩ = some (sv j) ∧ w2.frozen? ⟨wb, j, none⟩ = false) ∧
      SetAt G w (w2.setCell ⟨wb, j, none⟩ v') wb ⟨fun i => if i = j then (W.clear d).slots j ++ [d] else (W.clear d).slots i, W.hand, (W.clear d).mp⟩ D d) := by
    intro X w2 v' hX hr hg ho
    have hu : Upd (fun k => (sv j).ownBlock = some k) w1 w2 := (hX.mono (fun _ _ h => h.elim)).grown hg (fun k _ e => e)
    have hXz := hX.size
    have hnb : ¬ (sv j).ownBlock = some wb := hrow.far HW.out.blk (by decide)
    have hsz := hu.size
    have hgD : ∀ k, (sv j).ownBlock = some k → k ≠ D := fun k hk e => by subst e; exact hDn (HW.out.gr j hj _ hk)
    have hp := HW.out.put (G' := fun k => G k ∨ (w1.heap.size ≤ k ∧ k < w2.heap.size)) hj hr hu (fun k hk => (ho k hk).imp (fun h => h) (fun h => by omega)) (fun k h => Or.inl h)
      (fun k hk => by
        rcases ho k hk with h3 | h3
        · exact Or.inl (HW.out.gr j hj k h3)
        · exact Or.inr ⟨by omega, hr.lt k hk⟩) (fun k hk => by
        rcases hk with h3 | h3
        · exact Nat.lt_of_lt_of_le (HW.out.lt k h3) hsz
        · exact h3.2)
    rw [HH.out] at hp
    have hwbG := HW.out.gb
    refine ⟨⟨(hu.cell hwbl hnb).trans e0, (hu.frozen hwbl hnb).trans e1⟩, _, hp, (hb1.keep hu (fun e => hgD _ e rfl)).keep (Upd.one _ _ _ _) (fun e => hDn (by rw [e]; exact hwbG)), (HU.out.trans (hu.mono (fun k _ hk => HW.out.gr j hj k hk))).trans ((Upd.one _ _ _ _).mono (by rintro k _ rfl; exact hwbG)), fun k hk => ?_⟩
    rw [size_setCell]
    rcases hk with h3 | h3
    · exact Or.inl h3
    · exact Or.inr ⟨by omega, h3.2⟩
  have HOwn : Hid (∀ X, Same w1 X → DRow X (sv j) ((W.clear d).slots j)) := fun X hX => hrow.keep hX (fun _ _ h => h)
  have HN : Hid (aget (W.clear d).mp d = none) := by show _ = _; rw [clear_get hf.out]; exact if_pos rfl
  rw [hsv] at e0 HEnd HOwn
  have hfew' : ((W.clear d).slots j).length ≤ 1000000 := by omega
  have hj' : (j : Int) < 32 := by omega
  clear hrow hb1 hf HF HW HU HBx
  go_wp2_with fail
  go_cut [] (fun wx => Hid (SetAt G w wx wb ⟨fun i => if i = j then (W.clear d).slots j ++ [d] else (W.clear d).slots i, W.hand, (W.clear d).mp⟩ D d))
  case first =>
    go_region_law (
      (refine step_append_dl rfl (.tmp 24) (.tmp 26) rfl (.slice ao ((W.clear d).slots j).length cp) ((W.clear d).slots j) (by first | rfl | simp [Act.eval]) (HOwn.out _ (((Upd.refl _ w1).drew).alloc _)) ⟨w1.heap.size, 0, none⟩ 1 d (by first | rfl | simp [Act.eval]) (cell_of_heap (alloc_at w1.drew _) 0) (cell_of_heap (alloc_at w1.drew _) 1) hfew' ?_
       rintro v' w2 hr hg ho
       obtain ⟨⟨x0, x1⟩, hend⟩ := HEnd.out _ w2 v' (((Upd.refl _ w1).drew).alloc _) hr hg ho
       have HE := hid hend
       obtain ⟨ao', cp', rfl⟩ := hr.slice
       simp only [List.length_append, List.length_singleton] at HE
       clear hr hg ho hend))
    all_goals
      go_wp2_with fail
      go_meet
      exact HE
  case rest =>
    obtain ⟨G', ⟨am3, sv3, cs3, hw3⟩, hb3, hu3, hg3⟩ := hcut.out
    have y33 : wc.cell? ⟨wb, 33, none⟩ = some (.map (some am3)) := (cell_of_heap hw3.blk 33).trans hw3.mapc
    have y0 : wc.cell? ⟨D, 0, none⟩ = some (.int .i64 d.1) := cell_of_heap hb3 0
    have y1 : wc.cell? ⟨D, 1, none⟩ = some (.int .i64 d.2) := cell_of_heap hb3 1
    obtain ⟨es, clock, hjn⟩ := hw3.join HN.out j
    have HEE : Hid (∃ G', WAt G' { wc.drew with heap := wc.drew.heap.setIfInBounds am3 (.map es clock) } wb (W.set d t) ∧ Upd G w { wc.drew with heap := wc.drew.heap.setIfInBounds am3 (.map es clock) } ∧ ∀ k, G' k → G k ∨ (w.heap.size ≤ k ∧ k < ({ wc.drew with heap := wc.drew.heap.setIfInBounds am3 (.map es clock) } : World).heap.size)) := by
      obtain ⟨q1, q2, q3⟩ := hjn wc.drew ((Upd.refl _ _).drew)
      have hs := q3.size
      have hz := hu3.size
      have hG' : ∀ k, k < w.heap.size → G' k → G k := fun k hk hk2 => by
        rcases hg3 k hk2 with h3 | h3
        · exact h3
        · omega
      refine ⟨G', ?_, ⟨q3.os.trans hu3.os, q3.tape.trans hu3.tape, q3.output.trans hu3.output, Nat.le_trans hz hs, fun k hk hn => (q3.block k (Nat.lt_of_lt_of_le hk hz) (fun e => hn (hG' k hk e))).trans (hu3.block k hk hn)⟩, fun k hk => ?_⟩
      · have e : W.set d t = { (⟨fun i => if i = j then (W.clear d).slots j ++ [d] else (W.clear d).slots i, W.hand, (W.clear d).mp⟩ : Wst) with mp := aput (W.clear d).mp d j } := by unfold Wst.set; rw [← HJ.out]
        rw [e]; exact q2
      · rcases hg3 k hk with h3 | h3
        · exact Or.inl h3
        · exact Or.inr ⟨by omega, Nat.lt_of_lt_of_le h3.2 hs⟩
    have hrun := (hjn wc.drew ((Upd.refl _ _).drew)).1
    clear hcut hw3 hb3 hu3 hg3 hjn HEnd HOwn
    go_wp2_with fail
    go_region
    all_goals
      go_wp2_with fail
      exact bodyPost_end (v := .tuple #[]) (by simp [results, Tryz.results57, go_sem]) rfl ⟨rfl, HEE.out⟩

end Go.Proofs.YtiiapfkcmdkkoaaGreatDoor

/-
  A new wheel.
-/
namespace Go.Proofs.YtiiapfkcmdkkoaaGreatDoor
open Go.RowKit Go.MapKept

abbrev nilS : Value := .slice none 0 0
abbrev zeroW (am : Nat) : Array Value := #[nilS, nilS, nilS, nilS, nilS, nilS, nilS, nilS, nilS, nilS, nilS, nilS, nilS, nilS, nilS, nilS, nilS, nilS, nilS, nilS, nilS, nilS, nilS, nilS, nilS, nilS, nilS, nilS, nilS, nilS, nilS, nilS, .int .i64 0, .map (some am)]

theorem wh_new {w : World} {am wb : Nat} (h1 : w.heap[am]? = some (.map #[] 0)) (h2 : w.heap[wb]? = some (.cells (zeroW am) 107 (0, 0))) : WAt (fun k => k = am ∨ k = wb) w wb Wst.new := by
  refine ⟨am, fun _ => nilS, zeroW am, h2, rfl, ?_, rfl, rfl, fun j _ => DRow.nil w, ⟨#[], 0, h1, rfl⟩, ?_, Or.inr rfl, Or.inl rfl, ?_, ?_⟩
  · intro j hj
    have e : zeroW am = (List.replicate 32 nilS ++ [Value.int .i64 0, Value.map (some am)]).toArray := rfl
    rw [e, List.getElem?_toArray, List.getElem?_append_left (by simpa using hj), List.getElem?_replicate, if_pos hj]
  · intro i j _ _ _ k hk; cases hk
  · intro j _ k hk; cases hk
  · rintro k (rfl | rfl)
    · exact lt_of_heap h1
    · exact lt_of_heap h2

set_option maxHeartbeats 800000 in
set_option maxRecDepth 100000 in
theorem wnew_any (w : World) : Calls Tryz.prog 26 #[] w fun e w' => ∃ wb G, e = .returned (.pointer (some ⟨wb, 0, none⟩)) ∧ WAt G w' wb Wst.new ∧ Same w w' ∧ ∀ k, G k → w.heap.size ≤ k ∧ k < w'.heap.size := by
  have hmk : ∀ W : World, (Instr.makeMap 104 none).run Tryz.prog W = .ok (.map (some W.heap.size)) (W.alloc (.map #[] 0)) := fun W => by simp [Instr.makeMap, Result.andThen]
  have HE : Hid (WAt (fun k => k = w.heap.size ∨ k = w.heap.size + 1) ((w.alloc (.map #[] 0)).alloc (.cells (zeroW w.heap.size) 107)) (w.heap.size + 1) Wst.new) := by
    have e1 : (w.alloc (.map #[] 0)).heap.size = w.heap.size + 1 := by simp
    refine wh_new ?_ ?_
    · exact ((Upd.refl (fun _ => False) _).alloc _).keep (alloc_at w _) (fun h => h)
    · have := alloc_at (w.alloc (.map #[] 0)) (.cells (zeroW w.heap.size) 107)
      rw [e1] at this; exact this
  go_enter Tryz.func26, Tryz.ntmps26
  go_wp2
  go_ret
  refine ⟨w.heap.size + 1, _, ?_, HE.out, ((Upd.refl _ _).alloc _).alloc _, ?_⟩
  · first | rfl | simp
  · have e2 : ((w.alloc (.map #[] 0)).alloc (.cells (zeroW w.heap.size) 107)).heap.size = w.heap.size + 2 := by simp
    rintro k (rfl | rfl)
    · exact ⟨Nat.le_refl _, by show w.heap.size < _; rw [e2]; omega⟩
    · exact ⟨by omega, by show w.heap.size + 1 < _; rw [e2]; omega⟩

end Go.Proofs.YtiiapfkcmdkkoaaGreatDoor
