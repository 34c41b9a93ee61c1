import Derived.Test.YtiiapfkcmdkkoaaGreatDoorQ00
import Derived.Test.YtiiapfkcmdkkoaaGreatDoorQ28
import Derived.ChangeSlices
import Derived.Carry
/-
  From the law Cut's contract to its card.
-/
namespace Go.Proofs.YtiiapfkcmdkkoaaGreatDoor
open Go.ChangeShapes Go.WideShapes Go.ChangeAt Go.RowKit

/-- The law's contract. -/
def CutLaw : Prop := ∀ (s : ByteArray) (v : Value) (zs : List Int) (w : World), s.size ≤ 140737488355328 → zs.length ≤ 140737488355328 → IntsAt w.heap.size w v zs → TabW w → Calls Tryz.prog 4 #[.string s, v] w fun e w' => e = .returned (.bool true) ∧ Below w.heap.size w w'

namespace cutCard
theorem lits_len {H : Type} (k : IntKind) (l : List Int) : (lits (H := H) k l).length = l.length := by simp [lits]
theorem bytesInt : Tryz.prog.bytesOf 3 = 8 := by kernel_rfl
theorem undInts : Tryz.prog.underlying 37 = some (.slice 3) := by kernel_rfl
theorem cellsInt : Tryz.prog.cellsOf 3 = 1 := by kernel_rfl
theorem laidOut' : laidOutB Tryz.prog = true := by kernel_rfl
set_option maxRecDepth 100000 in
theorem sizes_of {H : Type} {enc : TypeId × Value → H} {W : World} {v : Value} {d : DataW H} {ps : List MemPlace} (hok : Value.okWide Tryz.prog W .any 0 37 v) (h : DataW.Trod enc Tryz.prog W 0 (fun _ => true) true 37 v d ps) (hlt : ∀ x ∈ ps, x.block < W.heap.size) (hwt : ∀ n ∈ d.weights Tryz.prog 37, n ≤ reachBytes) :
    ∃ zs : List Int, IntsAt W.heap.size W v zs ∧ zs.length ≤ 140737488355328 := by
  obtain ⟨a0, len, cap, rfl⟩ := okWide_slice undInts hok
  obtain ⟨fuel, hf⟩ := h
  rcases open_ints undInts undInt cellsInt hf with ⟨hcs, hx⟩ | ⟨a, len', cap', zs, hcs, _, hl, hm, hz, hx, hcell, hwz⟩
  · simp [Value.cells] at hcs
    obtain ⟨rfl, rfl, rfl⟩ := hcs
    exact ⟨[], .none, Nat.zero_le _⟩
  · simp [Value.cells] at hcs
    obtain ⟨rfl, rfl, rfl⟩ := hcs
    simp only [Prod.mk.injEq] at hx
    obtain ⟨rfl, rfl⟩ := hx
    simp only [if_true] at hz
    have hlen : (zs.take len).length = len := by rw [List.length_take]; omega
    refine ⟨zs.take len, ?_, ?_⟩
    · have := IntsAt.some (B := W.heap.size) (w := W) a cap (zs.take len) (fun hpos => by
        rw [hlen] at hpos
        obtain ⟨b, off, spot⟩ := a
        exact hlt (.cell b off) (MemPlace.mem_row.2 ⟨0, by omega, by simp⟩)) (fun i z hz' => by
        have hi := (List.getElem?_eq_some_iff.1 hz').1
        rw [hlen] at hi
        have := hcell i (by omega)
        rw [this]
        rw [List.getElem?_take, if_pos hi] at hz'
        rw [List.getD, hz']; rfl)
      rw [hlen] at this
      exact this
    · have h := hwt (((lits (H := H) .i64 (zs.take len)).length + (lits (H := H) .i64 (zs.drop len)).length) * Tryz.prog.bytesOf 3) (by simp [DataW.weights])
      rw [lits_len, hlen, bytesInt] at h
      have e2 := reachBytes_lt
      rw [hlen]
      omega

set_option maxRecDepth 100000 in
theorem contract (hlaw : CutLaw) (H : Type) (enc : TypeId × Value → H) (W : World) (base : Nat) (args : Array Value) (ds gs : List (DataW H)) (before : List MemPlace) (X : List TypeId)
    (hval : ∀ (j : Nat) t v, Tryz.f4.params[j]? = some t → args[j]? = some v → Value.okWide Tryz.prog W .any base t v)
    (hW : DataW.Whole enc Tryz.prog Tryz.f4.params.toList Rows.cutSpec.vars false W args.toList ds gs before) (hL : laidMetH Tryz.prog Rows.cutRow.laid W) (hwt : (DataW.weightsEach Tryz.prog (Tryz.f4.params.toList ++ X) (ds ++ gs)).all (· ≤ reachBytes) = true) :
    Calls Tryz.prog 4 args W fun e W' => ∃ v, e = .returned v ∧ Rows.cutSpec.post enc Tryz.prog Tryz.f4 false true false false W args v W' := by
  have hW' := hW
  obtain ⟨p, q, hA0, hV, rfl, hfz, hnd⟩ := hW
  have hA : DataW.TrodAll enc Tryz.prog W 0 (fun _ => true) true Tryz.f4.params.toList args.toList ds p := hA0
  rw [Tryz.params4] at hA hval hwt
  obtain ⟨v0, vs0, d0, ds0, p0, q0, hargs, rfl, rfl, h0, r0⟩ := trodAll_cons hA
  obtain ⟨v1, vs1, d1, ds1, p1, q1, hargs1, rfl, rfl, h1, r1⟩ := trodAll_cons r0
  obtain ⟨rfl, rfl, rfl⟩ := trodAll_nil r1
  obtain rfl : args = #[v0, v1] := by cases args; simp_all
  obtain ⟨rfl, rfl⟩ := trodVars_none hV
  obtain ⟨s, rfl, rfl, rfl, hs⟩ := ChangeMaps.open_string undStr (hval 0 9 v0 rfl rfl) h0
  have hlt : ∀ x ∈ p1, x.block < W.heap.size := fun x hx => by simpa using hW'.lt x (by simp [hx])
  obtain ⟨zs, hzs, hzl⟩ := sizes_of (hval 1 37 v1 rfl rfl) h1 hlt (fun n hn => by simpa using List.all_eq_true.1 hwt n (DataW.weights_mem_each (j := 1) rfl rfl n hn))
  clear hA0
  have hbk : s.size ≤ 140737488355328 ∧ zs.length ≤ 140737488355328 := by
    have h := sized_string (j := 0) (t := 9) (bytes := s.data.toList) hwt rfl rfl
    have e : s.data.toList.length = s.size := by rw [Array.length_toList]; rfl
    have e2 := reachBytes_lt
    omega
  simp only [List.append_nil] at hW'
  refine (hlaw s v1 zs W hbk.1 hbk.2 hzs (table hL)).mono fun e W' ⟨he, hg⟩ => ?_
  subst he
  exact ⟨_, rfl, ⟨_, _, _, [], _, [], hW', trodAll_mk1 (shut_bool undBool _), trodAll_mk2 (ChangeMaps.shut_string undStr hs) (Below.trod laidOut' (by kernel_rfl) (of_decide_eq_true (by kernel_rfl)) h1 hg hlt), rfl, hg.frame _, fun h => by cases h⟩⟩

/-- A world for the witness: the settled one, the three tables holding what their initialisers lay. -/
noncomputable def laidWorld (os : Os) : World :=
  { World.holding Tryz.prog os ⟨#[], #[], []⟩ with heap := ((((World.holding Tryz.prog os ⟨#[], #[], []⟩).heap.modify 0 (prefixCard.setTab prefixCard.tabLim)).modify 1 (prefixCard.setTab (Lib.pow10Tab.map (Value.int .u64)).toArray)).modify 2 (prefixCard.setTab prefixCard.tab32)).modify 3 (prefixCard.setTab prefixCard.tab64) }
theorem laid_met (os : Os) : laidMet Tryz.prog Rows.cutRow.laid ((laidWorld os).forCall (fun _ _ => 0) ⟨#[], #[.string ⟨#[]⟩, .slice none 0 0], []⟩).memory :=
  laidMet_of_run' 8 (by kernel_rfl) (by kernel_rfl)
theorem reads (os : Os) {H : Type} (enc : TypeId × Value → H) : ∃ places, DataW.whole enc Tryz.prog ((laidWorld os).forCall (fun _ _ => 0) ⟨#[], #[.string ⟨#[]⟩, .slice none 0 0], []⟩).memory Tryz.f4.params.toList Rows.cutSpec.vars false #[Value.string ⟨#[]⟩, .slice none 0 0].toList 8 = some ([.lit (.string []), .nil], [], places) :=
  ⟨[], by kernel_rfl⟩

set_option maxRecDepth 100000 in
theorem lifted (hlaw : CutLaw) (os : Os) (started : os.Started) (H : Type) (enc : TypeId × Value → H) (F : Stop.Interp) :
    ReturnsInHanded {} Tryz.checked os 4 .any ((OpenSpec.ofChange Rows.cutSpec).preRow enc Tryz.prog Tryz.f4 Rows.cutRow.domain false Rows.cutRow.laid) (((OpenSpec.ofChange Rows.cutSpec).at F).post enc Tryz.prog Tryz.f4 false true false false) := by
  obtain ⟨places, hx⟩ := reads os enc
  refine returnsInHanded_of_row (C := Tryz.checked) (s := OpenSpec.ofChange Rows.cutSpec) own started (by kernel_rfl) Tryz.func4
    (witness_row_at (enc := enc) (C := Tryz.checked) false (laidWorld os) #[.string ⟨#[]⟩, .slice none 0 0] rfl (by kernel_rfl) (by kernel_rfl) (by kernel_rfl)
      (OpenSpec.preRow_of_cond 8 hx (by kernel_rfl) (fun k hk => by cases hk) (by kernel_rfl) (laid_met os))) ?_
  intro W base args ds gs before hval hW _ _ hsz hL _ _
  exact contract hlaw H enc W base args ds gs before _ hval hW hL hsz

theorem said (hlaw : CutLaw) : Rows.CutSaid :=
  OpenClaim.holds_of_cond 4 Tryz.f4 rfl rfl rfl rfl rfl rfl rfl ⟨rfl, rfl, rfl, rfl, rfl⟩ rfl rfl rfl rfl rfl (by kernel_rfl) Tryz.func4 (by kernel_rfl)
    (of_decide_eq_true (by kernel_rfl)) (by unfold Func.isWrapper; first | (rw [if_pos (by decide +kernel)]; kernel_rfl) | (rw [if_neg (by decide +kernel)]; exact ⟨rfl, rfl⟩))
    (fun os started H enc _ F => by rw [OpenClaim.pre_eq_preRow]; exact lifted hlaw os started H enc F)

theorem plain (f : FuncId) (fn : Func) (hf : Tryz.pinned.checked.prog.funcNamed "hearth/hearthlaw.Cut" = some f) (hfn : Tryz.pinned.checked.prog.funcs[f]? = some fn) :
    true = Tryz.pinned.checked.prog.looks [] ∧ ∀ (j : Nat) t, fn.params[j]? = some t → Tryz.pinned.checked.prog.wantsStandIn t = false := by
  obtain rfl : f = 4 := Option.some.inj ((show Tryz.prog.funcNamed "hearth/hearthlaw.Cut" = some 4 by kernel_rfl).symm.trans hf) |>.symm
  obtain rfl : fn = Tryz.f4 := (Option.some.inj (Tryz.func4.symm.trans hfn)).symm
  refine ⟨by kernel_rfl, fun j t ht => ?_⟩
  rw [Tryz.params4] at ht
  have hm := Array.mem_of_getElem? ht
  have ht' : t = 9 ∨ t = 37 := by simpa using hm
  rcases ht' with rfl | rfl
  · exact (show Tryz.prog.wantsStandIn 9 = false by kernel_rfl)
  · exact (show Tryz.prog.wantsStandIn 37 = false by kernel_rfl)

/-- The card. -/
theorem card (hlaw : CutLaw) : Rows.CutCardSaid :=
  tied_goes _ _ _ (said hlaw) (by kernel_rfl) cut_row_tie rfl ⟨rfl, rfl⟩ (by kernel_rfl) plain (by kernel_rfl)
end cutCard

end Go.Proofs.YtiiapfkcmdkkoaaGreatDoor

/-
  The statement Cut.
-/
namespace Go.Proofs.YtiiapfkcmdkkoaaGreatDoor
open Go.RowKit Go.MapKept

theorem tab_below {w w' : World} {B : Nat} (hB : w.heap.size ≤ B) (h : Tab w) (hb : Below B w w') : Tab w' := by
  unfold Tab Lib.TabIs World.var? at *
  cases hg : Tryz.prog.globalNamed "internal/strconv.uint64pow10" with
  | none => simp [hg] at h
  | some g =>
    simp only [hg, Option.bind_some] at h ⊢
    have hlt : g < w.heap.size := by
      rcases Nat.lt_or_ge g w.heap.size with h' | h'
      · exact h'
      · rw [Array.getElem?_eq_none h'] at h; simp at h
    rw [hb.block g (by omega)]
    exact h

theorem lim_of {w : World} (h : Lib.TabIs Tryz.prog w "hearth/hearth.limitTicks" .i64 [8, 10, 20, 12]) : ∃ t fz, w.heap[0]? = some (.cells #[.int .i64 8, .int .i64 10, .int .i64 20, .int .i64 12] t fz) := by
  unfold Lib.TabIs World.var? at h
  rw [gLim] at h
  simp only [Option.bind_some] at h
  split at h
  · rename_i cs t fz hb
    injection h with h
    exact ⟨t, fz, by rw [hb, h]; rfl⟩
  · cases h
theorem lim_below {w w' : World} {B : Nat} (hB : w.heap.size ≤ B) (h : Lib.TabIs Tryz.prog w "hearth/hearth.limitTicks" .i64 [8, 10, 20, 12]) (hb : Below B w w') : Lim w' := by
  obtain ⟨t, fz, h0⟩ := lim_of h
  have h1 : w'.heap[0]? = _ := (hb.block 0 (by have := lt_of_heap h0; omega)).trans h0
  exact ⟨cell_of_heap h1 0, cell_of_heap h1 1, cell_of_heap h1 2, cell_of_heap h1 3⟩
theorem tb_of {w : World} (h : TabW w) : Tb w.heap.size w := fun _ hb => ⟨tab_below (Nat.le_refl _) h.1 hb, lim_below (Nat.le_refl _) h.2 hb⟩

theorem cut_law : CutLaw := fun s v zs w hs hl hz ht => cut_any w.heap.size w (hid (tb_of ht)) (Nat.le_refl _) s hs v zs (hid hz) hl

/-- The statement. -/
theorem cut_full : Rows.CutCardSaid := cutCard.card cut_law

end Go.Proofs.YtiiapfkcmdkkoaaGreatDoor
