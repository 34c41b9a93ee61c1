import Derived.Test.YtiiapfkcmdkkoaaGreatDoorQ15
import Derived.Deep.DeepCutAuto
/-
  slices.DeleteFunc at deadlines, walked.
-/
namespace Go.Proofs.YtiiapfkcmdkkoaaGreatDoor
open Go.RowKit Go.MapKept

theorem filter_all {ds : List Dl} {d : Dl} (h : ¬ ds.findIdx (· == d) < ds.length) : ds.filter (pNot d) = ds := by
  rw [List.filter_eq_self]
  intro a ha
  have he : ds.findIdx (· == d) = ds.length := by have := List.findIdx_le_length (p := (· == d)) (xs := ds); omega
  rw [List.findIdx_eq_length] at he
  simp [pNot, he a ha]

theorem dst_start {w : World} {g cap : Nat} {ds : List Dl} {d : Dl} {cur : Array Value} (hh : w.heap[g]? = some (.cells cur 62 (0, 0))) (hcs : cur.size = cap * 2) (htake : cur.toList.take (ds.length * 2) = dlCells ds) (hi : ds.findIdx (· == d) < ds.length) :
    DSt w w g cap ds d (ds.findIdx (· == d)) (ds.findIdx (· == d) + 1) ds (cur.toList.drop (ds.length * 2)) := by
  refine ⟨?_, rfl, ?_, by omega, ?_, rfl, Upd.refl _ _⟩
  · rw [← htake, List.take_append_drop, Array.toArray_toList]; exact hh
  · rw [List.length_drop, Array.length_toList, hcs]; omega
  · rw [List.take_succ_eq_append_getElem hi, List.filter_append]
    have h1 : (ds[ds.findIdx (· == d)] == d) = true := List.findIdx_getElem (w := hi)
    have h2 : (ds.take (ds.findIdx (· == d))).filter (pNot d) = ds.take (ds.findIdx (· == d)) := by
      rw [List.filter_eq_self]
      intro a ha
      obtain ⟨k, hk, rfl⟩ := List.mem_iff_getElem.1 ha
      rw [List.length_take] at hk
      rw [List.getElem_take]
      simp [pNot, findIdx_lt_ne (d := d) (by omega : k < ds.length) (by omega)]
    rw [h2]
    simp [pNot, h1]

set_option maxHeartbeats 3200000 in
set_option maxRecDepth 100000 in
theorem delf_any {w : World} {v : Value} {ds : List Dl} {D : Nat} {d : Dl} (hr : Hid (DRow w v ds)) (hD : Hid (Boxed w D d)) (hne : Hid (v.ownBlock ≠ some D)) (hn : ds.length ≤ 1000000) :
    Calls Tryz.prog 77 #[v, cloF D] w fun e w' => ∃ v', e = .returned v' ∧ DRow w' v' (ds.filter (pNot d)) ∧ Upd (fun k => v.ownBlock = some k) w w' ∧ v'.ownBlock = v.ownBlock := by
  have HI := hid (idxf_any hr hD hn)
  by_cases hi : ds.findIdx (· == d) < ds.length
  · rcases hr.out.2 with ⟨rfl, h0⟩ | ⟨g, cap, cur, rfl, _, hh, hnc, hcm, hcs, htake⟩
    · exact absurd hi (by omega)
    · have HS := hid (dst_start hh hcs htake hi)
      have hgD : g ≠ D := fun e => hne.out (by rw [e]; rfl)
      have hml : ∀ c : Nat, c ≤ maxLen → c ≤ 9223372036854775807 := fun c hc => by simp only [maxLen] at hc; omega
      have hcap := hml cap hcm
      have HM := hid hcm
      rw [if_pos hi] at HI
      generalize ds.findIdx (· == d) = m at HI HS hi
      have hent := entClo
      have hm1 : ((m : Int) == -1) = false := beq_eq_false_iff_ne.2 (by omega)
      have HE : Hid (Value.ownBlock (.slice (some ⟨g, 0, none⟩) ds.length cap) = some g) := rfl
      clear hr htake hcs hh hcm hml hne
      unfold cloF at *
      go_enter Tryz.func77, Tryz.ntmps77
      go_wp2_with fail
      refine HI.out.mono ?_
      rintro e w1 ⟨rfl, hu1⟩
      have HS1 := hid (HS.out.same hu1)
      have HD1 := hid (hD.out.keep hu1 (fun h => h))
      have HU1 := hid hu1
      clear hu1 HS HI
      go_wp2_with fail
      go_loopw [5, 6] (fun vi vj wr => ∃ (i j : Nat) (cs : List Dl) (rest : List Value), vi = .int .i64 i ∧ vj = .int .i64 j ∧ Hid (DSt w wr g cap ds d i j cs rest) ∧ Hid (Boxed wr D d)) (fun _ vj _ => ds.length - (intOf vj).toNat)
      case atStart => exact ⟨m, m + 1, _, _, rfl, by go_num, HS1, HD1⟩
      case round =>
        obtain ⟨i, j, cs, rest, rfl, rfl, hst, hbx⟩ := hrel
        obtain ⟨hij, hjn⟩ := hst.out.le
        clear HS1 HD1 HU1
        by_cases hlt : j < ds.length
        · obtain ⟨o, ho, e0, e1, f0, f1⟩ := hst.out.at_ hlt
          have hoj : o = ds[j] := by have := hst.out.next hlt; rw [ho] at this; injection this
          obtain ⟨o2, _, i0, i1, q0, q1⟩ := hst.out.at_ (k := i) (by omega)
          have hgl := lt_of_heap hst.out.blk
          have HU0 : Hid (Same wr (wr.alloc (.cells #[.int .i64 ds[j].1, .int .i64 ds[j].2] 62))) := (Upd.refl _ wr).alloc _
          have HC := hid (clo_any (hbx.out.keep HU0.out (fun h => h)) ds[j])
          unfold dlV at HC
          have HBX := hid (fun W (hW : Same (wr.alloc (.cells #[.int .i64 ds[j].1, .int .i64 ds[j].2] 62)) W) => hW.keep (alloc_at wr (.cells #[.int .i64 ds[j].1, .int .i64 ds[j].2] 62)) (fun h => h))
          cases hdj : (ds[j] == d)
          · rw [hdj] at HC
            have HK : Hid (∀ W, Same wr W → DSt w ((W.setCell ⟨g, i * 2, none⟩ (.int .i64 ds[j].1)).setCell ⟨g, i * 2 + 1, none⟩ (.int .i64 ds[j].2)) g cap ds d (i + 1) (j + 1) (cs.set i ds[j]) rest ∧ Boxed ((W.setCell ⟨g, i * 2, none⟩ (.int .i64 ds[j].1)).setCell ⟨g, i * 2 + 1, none⟩ (.int .i64 ds[j].2)) D d) :=
              fun W hW => ⟨(hst.out.same hW).keep1 hlt hdj, (((hbx.out.keep hW (fun h => h)).keep (Upd.one _ g _ _) (fun e => hgD e.symm)).keep (Upd.one _ g _ _) (fun e => hgD e.symm))⟩
            have HIc := hid (fun W (hW : Same wr W) => (hst.out.same hW).at_ (k := i) (by omega))
            subst hoj
            clear hst hbx hdj
            generalize ds[j] = o at *
            go_wp2_with fail
            refine HC.out.mono ?_
            rintro e w2 ⟨rfl, hu2⟩
            have hb2 := HBX.out w2 hu2
            have x0 : w2.cell? ⟨wr.heap.size, 0, none⟩ = some (.int .i64 o.1) := cell_of_heap hb2 0
            have x1 : w2.cell? ⟨wr.heap.size, 1, none⟩ = some (.int .i64 o.2) := cell_of_heap hb2 1
            have hu3 := HU0.out.trans hu2
            obtain ⟨o3, _, i0', i1', q0', q1'⟩ := HIc.out w2 hu3
            have HE2 := hid (HK.out w2 hu3)
            clear hb2 hu2 hu3 HBX HIc HK HC HU0
            go_wp2
            exact ⟨⟨i + 1, j + 1, _, _, by go_num, by go_num, hid HE2.out.1, hid HE2.out.2⟩, by simp [intOf]; omega⟩
          · rw [hdj] at HC
            have HK : Hid (∀ W, Same wr W → DSt w W g cap ds d i (j + 1) cs rest ∧ Boxed W D d) := fun W hW => ⟨(hst.out.same hW).skip hlt hdj, hbx.out.keep hW (fun h => h)⟩
            subst hoj
            clear hst hbx hdj HBX
            generalize ds[j] = o at *
            go_wp2_with fail
            refine HC.out.mono ?_
            rintro e w2 ⟨rfl, hu2⟩
            have HE2 := hid (HK.out w2 (HU0.out.trans hu2))
            clear hu2 HK HC HU0
            go_wp2
            exact ⟨⟨i, j + 1, _, _, rfl, by go_num, hid HE2.out.1, hid HE2.out.2⟩, by simp [intOf]; omega⟩
        · obtain rfl : j = ds.length := by omega
          obtain ⟨W, hW, hrow, hupd⟩ := hst.out.cleared hnc HM.out 0
          have HR := hid hrow
          have HUp := hid hupd
          have hin : i ≤ ds.length := by omega
          have hic : i ≤ cap := by omega
          clear hrow hupd hst hbx
          go_wp2
          go_ret
          refine ⟨_, rfl, HR.out, HUp.out.mono (fun k _ e => ?_), rfl⟩
          show some g = some k
          rw [e]
  · rw [if_neg hi] at HI
    have HF := hid (filter_all hi)
    clear hi
    unfold cloF at *
    rcases hr.out.2 with ⟨rfl, h0⟩ | ⟨g, cap, cur, rfl, _, hh, hnc, hcm, hcs, htake⟩
    all_goals
      go_enter Tryz.func77, Tryz.ntmps77
      go_wp2_with fail
      refine HI.out.mono ?_
      rintro e w1 ⟨rfl, hu1⟩
      have HU1 := hid hu1
      clear hu1 HI
      go_wp2
      go_ret
      exact ⟨_, rfl, by rw [HF.out]; exact hr.out.keep HU1.out (fun _ _ h => h), HU1.out.mono (fun _ _ h => h.elim), rfl⟩

end Go.Proofs.YtiiapfkcmdkkoaaGreatDoor

/-
  The wheel in memory; Has, Clear.
-/
namespace Go.Proofs.YtiiapfkcmdkkoaaGreatDoor
open Go.RowKit Go.MapKept

def natV (n : Nat) : Value := .int .i64 n

/-- The wheel in memory, in the blocks G. -/
structure Wh (G : Nat → Prop) (w : World) (wb : Nat) (W : Wst) (am : Nat) (sv : Nat → Value) (cs : Array Value) : Prop where
  blk : w.heap[wb]? = some (.cells cs 107 (0, 0))
  size : cs.size = 34
  slot : ∀ j, j < 32 → cs[j]? = some (sv j)
  hand : cs[32]? = some (.int .i64 W.hand)
  mapc : cs[33]? = some (.map (some am))
  row : ∀ j, j < 32 → DRow w (sv j) (W.slots j)
  mp : ∃ es clock, w.heap[am]? = some (.map es clock) ∧ Ents dlV natV es W.mp
  sep : ∀ i j, i < 32 → j < 32 → i ≠ j → ∀ k, (sv i).ownBlock = some k → (sv j).ownBlock ≠ some k
  gb : G wb
  ga : G am
  gr : ∀ j, j < 32 → ∀ k, (sv j).ownBlock = some k → G k
  lt : ∀ k, G k → k < w.heap.size

def WAt (G : Nat → Prop) (w : World) (wb : Nat) (W : Wst) : Prop := ∃ am sv cs, Wh G w wb W am sv cs

theorem Wh.keep {G M : Nat → Prop} {w w' : World} {wb : Nat} {W : Wst} {am : Nat} {sv : Nat → Value} {cs : Array Value} (h : Wh G w wb W am sv cs) (hu : Upd M w w') (hm : ∀ k, G k → ¬ M k) : Wh G w' wb W am sv cs := {
  blk := hu.keep h.blk (hm _ h.gb)
  size := h.size
  slot := h.slot
  hand := h.hand
  mapc := h.mapc
  row := fun j hj => (h.row j hj).keep hu (fun k hk => hm k (h.gr j hj k hk))
  mp := by
    obtain ⟨es, clock, h1, h2⟩ := h.mp
    exact ⟨es, clock, hu.keep h1 (hm _ h.ga), h2⟩
  sep := h.sep
  gb := h.gb
  ga := h.ga
  gr := h.gr
  lt := fun k hk => Nat.lt_of_lt_of_le (h.lt k hk) hu.size }
theorem Wh.same {G : Nat → Prop} {w w' : World} {wb : Nat} {W : Wst} {am : Nat} {sv : Nat → Value} {cs : Array Value} (h : Wh G w wb W am sv cs) (hu : Same w w') : Wh G w' wb W am sv cs := h.keep hu (fun _ _ h => h)
theorem WAt.keep {G M : Nat → Prop} {w w' : World} {wb : Nat} {W : Wst} (h : WAt G w wb W) (hu : Upd M w w') (hm : ∀ k, G k → ¬ M k) : WAt G w' wb W := by
  obtain ⟨am, sv, cs, h⟩ := h
  exact ⟨am, sv, cs, h.keep hu hm⟩
theorem WAt.lt {G : Nat → Prop} {w : World} {wb : Nat} {W : Wst} (h : WAt G w wb W) : ∀ k, G k → k < w.heap.size := by
  obtain ⟨am, sv, cs, h⟩ := h
  exact h.lt

theorem zeroIntV (w : World) : (zeroValue 3).run Tryz.prog w = .ok (.int .i64 0) w := by kernel_rfl
theorem Wh.look {G : Nat → Prop} {w : World} {wb : Nat} {W : Wst} {am : Nat} {sv : Nat → Value} {cs : Array Value} (h : Wh G w wb W am sv cs) (d : Dl) :
    (Instr.lookup 104 (.map (some am)) (.agg #[.int .i64 d.1, .int .i64 d.2]) true).run Tryz.prog w = .ok (.tuple #[((aget W.mp d).map natV).getD (.int .i64 0), .bool (aget W.mp d).isSome]) w := by
  obtain ⟨es, clock, h1, h2⟩ := h.mp
  exact run_lookup_asked dl_asked undAt (zeroIntV w) h1 h2 d

abbrev boxD (w : World) (d : Dl) : World := w.alloc (.cells #[.int .i64 d.1, .int .i64 d.2] 62)

/-- Behind the box of a deadline. -/
structure Bx (w W0 : World) (D : Nat) (d : Dl) : Prop where
  box : Boxed W0 D d
  new : D = w.heap.size
  same : Same w W0
theorem bx_new (w : World) (d : Dl) : Bx w (boxD w d) w.heap.size d := ⟨alloc_at w _, rfl, (Upd.refl _ w).alloc _⟩

set_option maxHeartbeats 800000 in
theorem has_any {G : Nat → Prop} {w : World} {wb : Nat} {W : Wst} (h : Hid (WAt G w wb W)) (d : Dl) :
    Calls Tryz.prog 56 #[.pointer (some ⟨wb, 0, none⟩), .agg #[.int .i64 d.1, .int .i64 d.2]] w fun e w' => e = .returned (.bool (aget W.mp d).isSome) ∧ Same w w' := by
  obtain ⟨am, sv, cs, hw⟩ := h.out
  have HB := hid (bx_new w d)
  have HW1 := hid (hw.same HB.out.same)
  clear hw h
  unfold boxD at *
  go_enter Tryz.func56, Tryz.ntmps56
  go_wp2_with fail
  generalize w.alloc (.cells #[.int .i64 d.1, .int .i64 d.2] 62) = W0 at *
  generalize w.heap.size = D at *
  have c33 : W0.cell? ⟨wb, 33, none⟩ = some (.map (some am)) := (cell_of_heap HW1.out.blk 33).trans HW1.out.mapc
  have b0 : W0.cell? ⟨D, 0, none⟩ = some (.int .i64 d.1) := cell_of_heap HB.out.box 0
  have b1 : W0.cell? ⟨D, 1, none⟩ = some (.int .i64 d.2) := cell_of_heap HB.out.box 1
  have hl : ∀ n, (Instr.lookup 104 (.map (some am)) (.agg #[.int .i64 d.1, .int .i64 d.2]) true).run Tryz.prog (W0.drewN n) = .ok (.tuple #[((aget W.mp d).map natV).getD (.int .i64 0), .bool (aget W.mp d).isSome]) (W0.drewN n) := fun n => (HW1.out.same ((Upd.refl _ _).drewN n)).look d
  obtain ⟨b, HBQ⟩ : ∃ b, Hid ((aget W.mp d).isSome = b) := ⟨_, rfl⟩
  rw [HBQ.out] at hl
  generalize ((aget W.mp d).map natV).getD (.int .i64 0) = z at hl
  clear HW1
  go_quiet (fail)
  go_wp2
  go_ret
  exact ⟨by rw [HBQ.out]; rfl, HB.out.same.trans ((Upd.refl _ _).drewN _)⟩


/-- A deadline is struck out of the map. -/
theorem Wh.del {G : Nat → Prop} {w : World} {wb : Nat} {W : Wst} {am : Nat} {sv : Nat → Value} {cs : Array Value} (h : Wh G w wb W am sv cs) {d : Dl} {j : Nat} (hg : aget W.mp d = some j) :
    ∃ es clock, ∀ X, Same w X → (∀ ty, (Builtin.delete_ #[104, 62] ty #[.map (some am), .agg #[.int .i64 d.1, .int .i64 d.2]]).run Tryz.prog X = .ok (.tuple #[]) { X with heap := X.heap.setIfInBounds am (.map es clock) }) ∧
      Wh G { X with heap := X.heap.setIfInBounds am (.map es clock) } wb { W with mp := adel W.mp d } am sv cs ∧ Upd G X { X with heap := X.heap.setIfInBounds am (.map es clock) } := by
  obtain ⟨es, clock, h1, h2⟩ := h.mp
  have hL : ∃ p, W.mp[aidx W.mp d]? = some p := by
    unfold aget at hg
    obtain ⟨p, hp, _⟩ := Option.map_eq_some_iff.1 hg
    exact ⟨p, hp⟩
  obtain ⟨p, hp⟩ := hL
  refine ⟨es.eraseIdxIfInBounds (aidx W.mp d), clock, fun X hX => ?_⟩
  have hX1 := hX.keep h1 (fun h => h)
  have hk := run_findKey_asked (vv := natV) dl_asked d X es.toList W.mp h2
  rw [hp] at hk
  have hne : wb ≠ am := fun e => by have := h.blk; rw [e, h1] at this; cases this
  have U : Upd (fun k => k = am) X { X with heap := X.heap.setIfInBounds am (.map (es.eraseIdxIfInBounds (aidx W.mp d)) clock) } := ⟨rfl, rfl, rfl, by simp, fun k hk hn => by simp [Ne.symm hn]⟩
  have hX2 := h.same hX
  refine ⟨fun ty => ?_, ?_, U.mono (by rintro k _ rfl; exact h.ga)⟩
  · have hc := dl_asked.chk d
    unfold dlV at hk hc
    simp [Builtin.delete_, run_underlying undAt, MapKept.run_getObj_map hX1, hc, hk, MapKept.run_setObj_map _ hX1, Result.andThen]
  · refine ⟨U.keep hX2.blk hne, h.size, h.slot, h.hand, h.mapc, fun i hi => (hX2.row i hi).keep U ?_, ⟨_, clock, (MapKept.heap_set hX1).1, ?_⟩, h.sep, h.gb, h.ga, h.gr, fun k hk => Nat.lt_of_lt_of_le (hX2.lt k hk) U.size⟩
    · rintro k hk rfl
      exact (hX2.row i hi).farM hX1 hk
    · show Ents dlV natV _ (adel W.mp d)
      unfold Ents adel
      rw [Array.toList_eraseIdxIfInBounds, map_erase, map_erase, h2]

/-- Between the map and the slot. -/
def DelAt (G : Nat → Prop) (w wx : World) (wb : Nat) (W : Wst) (am : Nat) (sv : Nat → Value) (cs : Array Value) (D : Nat) (d : Dl) : Prop := Wh G wx wb { W with mp := adel W.mp d } am sv cs ∧ Boxed wx D d ∧ Upd G w wx

theorem DRow.slice {w : World} {v : Value} {ds : List Dl} (h : DRow w v ds) : ∃ ao cp, v = .slice ao ds.length cp := by
  rcases h.2 with ⟨h1, h2⟩ | ⟨g, cap, cur, hv, _⟩
  · exact ⟨none, 0, by rw [h1, h2]⟩
  · exact ⟨_, _, hv⟩

/-- A slot is laid anew. -/
theorem Wh.put {G G' : Nat → Prop} {w w2 : World} {wb : Nat} {W : Wst} {am : Nat} {sv : Nat → Value} {cs : Array Value} (h : Wh G w wb W am sv cs) {j : Nat} (hj : j < 32) {v' : Value} {ds' : List Dl} (hr : DRow w2 v' ds') (hu : Upd (fun k => (sv j).ownBlock = some k) w w2)
    (ho : ∀ k, v'.ownBlock = some k → (sv j).ownBlock = some k ∨ w.heap.size ≤ k) (hG : ∀ k, G k → G' k) (hv : ∀ k, v'.ownBlock = some k → G' k) (hl : ∀ k, G' k → k < w2.heap.size) :
    WAt G' (w2.setCell ⟨wb, j, none⟩ v') wb ⟨fun i => if i = j then ds' else W.slots i, W.hand, W.mp⟩ := by
  have hb2 : w2.heap[wb]? = some (.cells cs 107 (0, 0)) := hu.keep h.blk ((h.row j hj).far h.blk (by decide))
  have U := Upd.one w2 wb j v'
  have hjs : j < cs.size := by rw [h.size]; omega
  obtain ⟨es, clock, h1, h2⟩ := h.mp
  have hne : wb ≠ am := fun e => by have := h.blk; rw [e, h1] at this; cases this
  refine ⟨am, fun i => if i = j then v' else sv i, cs.setIfInBounds j v', heap_setCell hb2 j v', by simp [h.size], fun i hi => ?_, ?_, ?_, fun i hi => ?_, ⟨es, clock, ?_, h2⟩, fun i k hi hk hik b hb => ?_, hG _ h.gb, hG _ h.ga, fun i hi k hk => ?_, fun k hk => ?_⟩
  · rw [Array.getElem?_setIfInBounds]
    by_cases e : j = i
    · subst e; rw [if_pos rfl, if_pos hjs, if_pos rfl]
    · rw [if_neg e, if_neg (fun x => e x.symm)]; exact h.slot i hi
  · rw [Array.getElem?_setIfInBounds, if_neg (by omega)]; exact h.hand
  · rw [Array.getElem?_setIfInBounds, if_neg (by omega)]; exact h.mapc
  · show DRow _ (if i = j then v' else sv i) (if i = j then ds' else W.slots i)
    by_cases e : i = j
    · rw [if_pos e, if_pos e]
      exact hr.keep U (by rintro k hk rfl; exact hr.far hb2 (by decide) hk)
    · rw [if_neg e, if_neg e]
      refine ((h.row i hi).keep hu (fun k hk hk2 => h.sep i j hi hj e k hk hk2)).keep U ?_
      rintro k hk rfl
      exact (h.row i hi).far h.blk (by decide) hk
  · exact U.keep (hu.keep h1 ((h.row j hj).farM h1)) (fun e => hne e.symm)
  · by_cases e : i = j
    · rw [if_pos e] at hb
      rw [if_neg (fun x => hik (e.trans x.symm))]
      intro hb2
      rcases ho b hb with h3 | h3
      · exact h.sep j k hj hk (fun x => hik (e.trans x)) b h3 hb2
      · have := (h.row k hk).lt b hb2; omega
    · rw [if_neg e] at hb
      by_cases e2 : k = j
      · rw [if_pos e2]
        intro hb2
        rcases ho b hb2 with h3 | h3
        · exact h.sep i j hi hj e b hb h3
        · have := (h.row i hi).lt b hb; omega
      · rw [if_neg e2]
        exact h.sep i k hi hk hik b hb
  · by_cases e : i = j
    · rw [if_pos e] at hk; exact hv k hk
    · rw [if_neg e] at hk; exact hG k (h.gr i hi k hk)
  · rw [World.setCell]
    simpa using hl k hk

set_option maxHeartbeats 1600000 in
set_option maxRecDepth 100000 in
theorem clear_any {G : Nat → Prop} {w : World} {wb : Nat} {W : Wst} (h : Hid (WAt G w wb W)) (hf : Hid (∀ d j, (d, j) ∈ W.mp → j < 32)) (hn : Hid (∀ j, j < 32 → (W.slots j).length ≤ 1000000)) (d : Dl) :
    Calls Tryz.prog 52 #[.pointer (some ⟨wb, 0, none⟩), .agg #[.int .i64 d.1, .int .i64 d.2]] w fun e w' => e = .returned (.tuple #[]) ∧ WAt G w' wb (W.clear d) ∧ Upd G w w' := by
  obtain ⟨am, sv, cs, hw⟩ := h.out
  have HB := hid (bx_new w d)
  have HW1 := hid (hw.same HB.out.same)
  have HD := hid hw.lt
  clear hw h
  unfold boxD at *
  go_enter Tryz.func52, Tryz.ntmps52
  go_wp2_with fail
  generalize w.alloc (.cells #[.int .i64 d.1, .int .i64 d.2] 62) = W0 at *
  generalize hDz : w.heap.size = D at *
  have c33 : W0.cell? ⟨wb, 33, none⟩ = some (.map (some am)) := (cell_of_heap HW1.out.blk 33).trans HW1.out.mapc
  have b0 : W0.cell? ⟨D, 0, none⟩ = some (.int .i64 d.1) := cell_of_heap HB.out.box 0
  have b1 : W0.cell? ⟨D, 1, none⟩ = some (.int .i64 d.2) := cell_of_heap HB.out.box 1
  have hl : ∀ n, (Instr.lookup 104 (.map (some am)) (.agg #[.int .i64 d.1, .int .i64 d.2]) true).run Tryz.prog (W0.drewN n) = .ok (.tuple #[((aget W.mp d).map natV).getD (.int .i64 0), .bool (aget W.mp d).isSome]) (W0.drewN n) := fun n => (HW1.out.same ((Upd.refl _ _).drewN n)).look d
  cases hg : aget W.mp d with
  | none =>
    have HC : Hid (W.clear d = W) := by show _ = _; unfold Wst.clear; rw [hg]
    rw [hg] at hl
    simp only [Option.map_none, Option.getD_none, Option.isSome_none] at hl
    clear hg hf hn
    go_quiet (fail)
    go_wp2
    exact bodyPost_ret (v := .tuple #[]) (by simp [results, Tryz.results52, go_sem]) rfl ⟨rfl, by rw [HC.out]; exact ⟨am, sv, cs, HW1.out.same ((Upd.refl _ _).drewN _)⟩, (HB.out.same.trans ((Upd.refl _ _).drewN _)).mono (fun _ _ h => h.elim)⟩
  | some j =>
    rw [hg] at hl
    simp only [Option.map_some, Option.getD_some, Option.isSome_some] at hl
    unfold natV at hl
    have hj : j < 32 := hf.out d j (aget_mem' hg)
    obtain ⟨es, clock, hdel⟩ := HW1.out.del hg
    have HDl := hid hdel
    have HG := hid hg
    have HDx : Hid (∀ X, Same W0 X → DelAt G w { X with heap := X.heap.setIfInBounds am (.map es clock) } wb W am sv cs D d) := fun X hX => ⟨(hdel X hX).2.1, hX.keep HB.out.box (fun h => h) |> fun q => ((hdel X hX).2.2).keep q (fun e => by have := HD.out D e; omega), ((HB.out.same.trans hX).mono (fun _ _ h => h.elim)).trans (hdel X hX).2.2⟩
    clear hg hdel
    go_quiet (fail)
    go_upto_region 3 with fail
    have HX : Hid (Same W0 (W0.drewN nq)) := (Upd.refl _ _).drewN nq
    have c33' : (W0.drewN nq).cell? ⟨wb, 33, none⟩ = some (.map (some am)) := c33
    have b0' : (W0.drewN nq).cell? ⟨D, 0, none⟩ = some (.int .i64 d.1) := b0
    have b1' : (W0.drewN nq).cell? ⟨D, 1, none⟩ = some (.int .i64 d.2) := b1
    clear hl c33 b0 b1
    generalize W0.drewN nq = X at *
    have hdr := fun ty => (HDl.out X.drew HX.out.drew).1 ty
    have HY := hid (HDx.out X.drew HX.out.drew)
    clear HDl HDx
    go_cut [] (fun wx => Hid (DelAt G w wx wb W am sv cs D d))
    case first =>
      go_region
      all_goals
        go_wp2_with fail
        go_meet
        exact HY
    case rest =>
      obtain ⟨hw2, hb2, hu2⟩ := hcut.out
      have e0 : wc.cell? ⟨wb, j, none⟩ = some (sv j) := (cell_of_heap hw2.blk j).trans (hw2.slot j hj)
      have e1 : wc.frozen? ⟨wb, j, none⟩ = false := unfrozen_of_heap hw2.blk j
      have hrow := hw2.row j hj
      obtain ⟨ao, cp, hsv⟩ := hrow.slice
      have hDG : ∀ k, (sv j).ownBlock = some k → k ≠ D := fun k hk e => by have := HD.out k (hw2.gr j hj k hk); omega
      have HF := hid (delf_any (w := wc.drew) (hid (hrow.keep ((Upd.refl (fun _ => False) wc).drew) (fun _ _ h => h))) (hid (hb2.keep ((Upd.refl (fun _ => False) wc).drew) (fun h => h))) (hid (fun e => hDG _ e rfl)) (hn.out j hj))
      have hent : Ent 77 := enters_of Tryz.func77 (by kernel_rfl) rfl
      have HEnd : Hid (∀ w2 v', DRow w2 v' ((W.slots j).filter (pNot d)) → Upd (fun k => (sv j).ownBlock = some k) wc.drew w2 → v'.ownBlock = (sv j).ownBlock → WAt G (w2.setCell ⟨wb, j, none⟩ v') wb (W.clear d) ∧ Upd G w (w2.setCell ⟨wb, j, none⟩ v')) := by
        intro w2 v' hr hu ho
        have hu' : Upd (fun k => (sv j).ownBlock = some k) wc w2 := ((Upd.refl _ wc).drew).trans hu
        have hp := hw2.put (G' := G) hj hr hu' (fun k hk => Or.inl (by rw [← ho]; exact hk)) (fun k h => h) (fun k hk => hw2.gr j hj k (by rw [← ho]; exact hk)) (fun k hk => Nat.lt_of_lt_of_le (hw2.lt k hk) hu'.size)
        refine ⟨?_, (hu2.trans (hu'.mono (fun k _ hk => hw2.gr j hj k hk))).trans ((Upd.one _ _ _ _).mono (by rintro k _ rfl; exact hw2.gb))⟩
        have e : W.clear d = ⟨fun i => if i = j then (W.slots j).filter (pNot d) else W.slots i, W.hand, adel W.mp d⟩ := by unfold Wst.clear; rw [HG.out]
        rw [e]; exact hp
      have HW := hid hw2.blk
      have HR := hid hrow
      rw [hsv] at e0 HF HEnd
      clear hcut hw2 hb2 hu2 hrow hDG HX HW1 HB c33' b0' b1' hdr HY
      unfold cloF at HF
      go_wp2_with fail
      go_region_with (go_at_call 77; refine HF.out.mono ?_; rintro e w2 ⟨v', rfl, hr, hu, ho⟩; have e0' : w2.cell? ⟨wb, j, none⟩ = some (.slice ao (W.slots j).length cp) := (hu.cell (lt_of_heap HW.out) (by intro e; rw [← hsv] at e; exact HR.out.far HW.out (by decide) e)).trans e0; have e1' : w2.frozen? ⟨wb, j, none⟩ = false := (hu.frozen (lt_of_heap HW.out) (by intro e; rw [← hsv] at e; exact HR.out.far HW.out (by decide) e)).trans e1; have HEE := hid (HEnd.out w2 v' hr hu ho); obtain ⟨ao', cp', rfl⟩ := hr.slice; clear hr hu ho)
      all_goals
        go_wp2_with fail
        exact bodyPost_end (v := .tuple #[]) (by simp [results, Tryz.results52, go_sem]) rfl ⟨rfl, HEE.out⟩

end Go.Proofs.YtiiapfkcmdkkoaaGreatDoor
