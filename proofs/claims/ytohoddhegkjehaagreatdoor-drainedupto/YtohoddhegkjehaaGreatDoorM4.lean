import Derived.Test.YtohoddhegkjehaaGreatDoorF6
import Derived.Test.YtohoddhegkjehaaGreatDoorR4
import Derived.Deep.Slices
import Derived.Carry
/-
  From the law Drained's contract to its card.
-/
namespace Go.Proofs.YtohoddhegkjehaaGreatDoor
open Go.ChangeShapes Go.WideShapes Go.ChangeAt Go.RowKit

/-- The law's contract. -/
def DrainedLaw : Prop := ∀ (v : Value) (os : List OpD) (s : ByteArray) (w : World), os.length ≤ 1100000 → (∀ o ∈ os, o.s.size ≤ 4000000) → OpsAt w.heap.size w v os → s.size ≤ 2000000 → TabW w → Calls Tryz.prog 6 #[v, .string s] w fun e w' => e = .returned (.bool true) ∧ Below w.heap.size w w'

namespace drainedCard
theorem bulk_mem {H : Type} : ∀ (l : List (DataW H)) (d : DataW H), d ∈ l → Rows.uptoBulk d ≤ Rows.uptoBulkAll l
  | e :: l, d, h => by
    simp only [Rows.uptoBulkAll]
    rcases List.mem_cons.1 h with rfl | h
    · omega
    · have := bulk_mem l d h; omega
theorem bulk_len {H : Type} : ∀ (l : List (DataW H)), (∀ d ∈ l, 1 ≤ Rows.uptoBulk d) → l.length ≤ Rows.uptoBulkAll l
  | [], _ => by simp
  | e :: l, h => by
    have h1 := h e (List.mem_cons.2 (Or.inl rfl))
    have := bulk_len l (fun d hd => h d (List.mem_cons.2 (Or.inr hd)))
    simp only [Rows.uptoBulkAll, List.length_cons]
    omega
theorem undOps : Tryz.prog.underlying 40 = some (.slice 78) := by kernel_rfl
theorem undOp : ∃ f0 f1 f2 f3 : Field, Tryz.prog.underlying 78 = some (.struct #[f0, f1, f2, f3]) ∧ (f0.type = 3 ∧ f0.offset = 0) ∧ (f1.type = 3 ∧ f1.offset = 1) ∧ (f2.type = 3 ∧ f2.offset = 2) ∧ (f3.type = 9 ∧ f3.offset = 3) :=
  ⟨_, _, _, _, Tryz.underlying78, ⟨rfl, rfl⟩, ⟨rfl, rfl⟩, ⟨rfl, rfl⟩, ⟨rfl, rfl⟩⟩
theorem cellsOp : Tryz.prog.cellsOf 78 = 4 := by kernel_rfl
theorem cellsI : Tryz.prog.cellsOf 3 = 1 := by kernel_rfl
theorem cellsS : Tryz.prog.cellsOf 9 = 1 := by kernel_rfl
theorem laidOut' : laidOutB Tryz.prog = true := by kernel_rfl
instance : Inhabited OpD := ⟨⟨0, 0, 0, ⟨#[]⟩⟩⟩

set_option maxRecDepth 100000 in
theorem ops_of {H : Type} {enc : TypeId × Value → H} {W : World} {base : Nat} {v : Value} {d : DataW H} {ps : List MemPlace} (hok : Value.okWide Tryz.prog W .any base 40 v) (h : DataW.Trod enc Tryz.prog W 0 (fun _ => true) true 40 v d ps) (hlt : ∀ x ∈ ps, x.block < W.heap.size) :
    ∃ os : List OpD, OpsAt W.heap.size W v os ∧ os.length ≤ Rows.uptoBulk d ∧ ∀ o ∈ os, o.s.size ≤ Rows.uptoBulk d := by
  obtain ⟨a0, len, cap, rfl⟩ := okWide_slice undOps hok
  obtain ⟨fuel, hf⟩ := h
  rcases Deep.open_slice undOps hf with ⟨hcs, hx⟩ | ⟨a, len', cap', m, n, D, Pl, hcs, _, hl, hm, hmm, hx, hcell⟩
  · simp [Value.cells] at hcs
    obtain ⟨rfl, rfl, rfl⟩ := hcs
    exact ⟨[], .none, Nat.zero_le _, by simp⟩
  · simp [Value.cells] at hcs
    obtain ⟨rfl, rfl, rfl⟩ := hcs
    simp only [Prod.mk.injEq] at hx
    obtain ⟨rfl, rfl⟩ := hx
    simp only [if_true] at hmm
    subst hmm
    by_cases h0 : len = 0
    · subst h0
      exact ⟨[], .empty a m, Nat.zero_le _, by simp⟩
    obtain ⟨f0, f1, f2, f3, he, ⟨t0, o0⟩, ⟨t1, o1⟩, ⟨t2, o2⟩, ⟨t3, o3⟩⟩ := undOp
    have each : ∀ i, i < len → ∃ o : OpD, W.cell? (a.add (i * 4)) = some (.int .i64 o.kind) ∧ W.cell? (a.add (i * 4 + 1)) = some (.int .i64 o.id) ∧ W.cell? (a.add (i * 4 + 2)) = some (.int .i64 o.n) ∧ W.cell? (a.add (i * 4 + 3)) = some (.string o.s) ∧ D i = .agg [.lit (.int .i64 o.kind), .lit (.int .i64 o.id), .lit (.int .i64 o.n), .lit (.string o.s.data.toList)] := by
      intro i hi
      obtain ⟨cs', h1, h2⟩ := hcell i (by omega)
      rw [cellsOp] at h1
      obtain ⟨_, hlen, hce⟩ := World.cells?_some h1
      obtain ⟨xs, k, hk, hxy, _, hxl, hfd⟩ := DataW.trod_struct he h2
      have hxl' : xs.length = 4 := hxl
      match xs, hxl', cs', hlen with
      | [y0, y1, y2, y3], _, [v0, v1, v2, v3], _ =>
        have g0 := hfd 0 f0 rfl
        have g1 := hfd 1 f1 rfl
        have g2 := hfd 2 f2 rfl
        have g3 := hfd 3 f3 rfl
        rw [t0, o0, cellsI] at g0
        rw [t1, o1, cellsI] at g1
        rw [t2, o2, cellsI] at g2
        rw [t3, o3, cellsS] at g3
        simp at g0 g1 g2 g3
        obtain ⟨n0, q0, rfl, _⟩ := DataW.trod_int undInt g0
        obtain ⟨n1, q1, rfl, _⟩ := DataW.trod_int undInt g1
        obtain ⟨n2, q2, rfl, _⟩ := DataW.trod_int undInt g2
        obtain ⟨s3, q3, rfl, _⟩ := DataW.trod_string undStr g3
        simp only [List.cons.injEq, and_true] at q0 q1 q2 q3
        subst q0 q1 q2 q3
        have e0 := hce 0 (by omega)
        have e1 := hce 1 (by omega)
        have e2 := hce 2 (by omega)
        have e3 := hce 3 (by omega)
        rw [Deep.add_add] at e0 e1 e2 e3
        simp only [Prod.mk.injEq] at hxy
        exact ⟨⟨n0, n1, n2, s3⟩, by simpa using e0, by simpa using e1, by simpa using e2, by simpa using e3, by simpa using hxy.1⟩
    obtain ⟨q, hq⟩ := Deep.choose_lt each
    obtain ⟨b, off, spot⟩ := a
    have hspot : spot = none := by
      have := (hq 0 (by omega)).1
      simpa [Addr.add] using World.cell?_spot this
    subst hspot
    simp only [Go.WideShapes.add_plain] at hq
    have hlenq : ((List.range len).map q).length = len := by simp
    refine ⟨(List.range len).map q, ?_, ?_, ?_⟩
    · have := OpsAt.some (B := W.heap.size) (w := W) b off m ((List.range len).map q) (hlt (.cell b off) (List.mem_append.2 (Or.inl (MemPlace.mem_row.2 ⟨0, by rw [cellsOp]; omega, by simp⟩)))) (fun i o ho => by
        have hi : i < len := by have := (List.getElem?_eq_some_iff.1 ho).1; rw [hlenq] at this; exact this
        have ho' : o = q i := by
          rw [List.getElem?_map, List.getElem?_range hi] at ho
          simpa using ho.symm
        rw [ho']
        have := hq i hi
        exact ⟨this.1, this.2.1, this.2.2.1, this.2.2.2.1⟩)
      rw [hlenq] at this
      exact this
    · have hb := bulk_len ((List.range len).map D) (fun d hd => by
        obtain ⟨i, hi, rfl⟩ := List.mem_map.1 hd
        rw [(hq i (List.mem_range.1 hi)).2.2.2.2]
        simp only [Rows.uptoBulk]
        omega)
      simp only [Rows.uptoBulk]
      rw [List.length_map, List.length_range] at hb ⊢
      omega
    · intro o ho
      obtain ⟨i, hi, rfl⟩ := List.mem_map.1 ho
      have hb := bulk_mem ((List.range len).map D) (D i) (List.mem_map.2 ⟨i, hi, rfl⟩)
      rw [(hq i (List.mem_range.1 hi)).2.2.2.2] at hb
      simp only [Rows.uptoBulk, Rows.uptoBulkAll] at hb ⊢
      have e : (q i).s.data.toList.length = (q i).s.size := by rw [Array.length_toList]; rfl
      omega

set_option maxRecDepth 100000 in
theorem contract (hlaw : DrainedLaw) (H : Type) (enc : TypeId × Value → H) (W : World) (base : Nat) (args : Array Value) (ds gs : List (DataW H)) (before : List MemPlace)
    (hval : ∀ (j : Nat) t v, Tryz.f6.params[j]? = some t → args[j]? = some v → Value.okWide Tryz.prog W .any base t v)
    (hW : DataW.Whole enc Tryz.prog Tryz.f6.params.toList Rows.drainedSpec.vars false W args.toList ds gs before) (hL : laidMetH Tryz.prog Rows.drainedUptoRow.laid W) (hk : Rows.uptoSmall H (ds ++ gs) = true) :
    Calls Tryz.prog 6 args W fun e W' => ∃ v, e = .returned v ∧ Rows.drainedSpec.post enc Tryz.prog Tryz.f6 false true false false W args v W' := by
  have hW' := hW
  obtain ⟨p, q, hA0, hV, rfl, hfz, hnd⟩ := hW
  have hA : DataW.TrodAll enc Tryz.prog W 0 (fun _ => true) true Tryz.f6.params.toList args.toList ds p := hA0
  rw [Tryz.params6] at hA hval
  obtain ⟨v0, vs0, d0, ds0, p0, q0, hargs, rfl, rfl, h0, r0⟩ := trodAll_cons hA
  obtain ⟨v1, vs1, d1, ds1, p1, q1, hargs1, rfl, rfl, h1, r1⟩ := trodAll_cons r0
  obtain ⟨rfl, rfl, rfl⟩ := trodAll_nil r1
  obtain rfl : args = #[v0, v1] := by cases args; simp_all
  obtain ⟨rfl, rfl⟩ := trodVars_none hV
  obtain ⟨s, rfl, rfl, rfl, hs⟩ := ChangeMaps.open_string undStr (hval 1 9 v1 rfl rfl) h1
  have hlt : ∀ x ∈ p0, x.block < W.heap.size := fun x hx => by simpa using hW'.lt x (by simp [hx])
  obtain ⟨os, hos, hol, hosz⟩ := ops_of (hval 0 40 v0 rfl rfl) h0 hlt
  clear hA0
  have hbk : s.size ≤ 2000000 ∧ Rows.uptoBulk d0 ≤ 1100000 := by
    have h := of_decide_eq_true hk
    simp only [List.append_nil, Rows.uptoBulkAll] at h
    have e : s.data.toList.length = s.size := by rw [Array.length_toList]; rfl
    have e2 : Rows.uptoBulk (DataW.lit (H := H) (.string s.data.toList)) = s.data.toList.length + 1 := by simp only [Rows.uptoBulk]
    omega
  simp only [List.append_nil] at hW'
  refine (hlaw v0 os s W (by omega) (fun o ho => by have := hosz o ho; omega) hos hbk.1 (table hL)).mono fun e W' ⟨he, hg⟩ => ?_
  subst he
  exact ⟨_, rfl, ⟨_, _, _, [], _, [], hW', trodAll_mk1 (shut_bool undBool _), trodAll_mk2 (Below.trod laidOut' (by kernel_rfl) (of_decide_eq_true (by kernel_rfl)) h0 hg hlt) (ChangeMaps.shut_string undStr hs), rfl, hg.frame _, fun h => by cases h⟩⟩

/-- A world for the witness: the settled one, the three tables holding what their initialisers lay. -/
noncomputable def laidWorld (os : Os) : World :=
  { World.holding Tryz.prog os ⟨#[], #[], []⟩ with heap := (((World.holding Tryz.prog os ⟨#[], #[], []⟩).heap.modify 0 (prefixCard.setTab (Lib.pow10Tab.map (Value.int .u64)).toArray)).modify 1 (prefixCard.setTab prefixCard.tab32)).modify 2 (prefixCard.setTab prefixCard.tab64) }
theorem laid_met (os : Os) : laidMet Tryz.prog Rows.drainedUptoRow.laid ((laidWorld os).forCall (fun _ _ => 0) ⟨#[], #[.slice none 0 0, .string ⟨#[]⟩], []⟩).memory :=
  laidMet_of_run' 8 (by kernel_rfl) (by kernel_rfl)
theorem reads (os : Os) {H : Type} (enc : TypeId × Value → H) : ∃ places, DataW.whole enc Tryz.prog ((laidWorld os).forCall (fun _ _ => 0) ⟨#[], #[.slice none 0 0, .string ⟨#[]⟩], []⟩).memory Tryz.f6.params.toList Rows.drainedSpec.vars false #[Value.slice none 0 0, .string ⟨#[]⟩].toList 8 = some ([.nil, .lit (.string [])], [], places) :=
  ⟨[], by kernel_rfl⟩

set_option maxRecDepth 100000 in
theorem liftedUpto (hlaw : DrainedLaw) (os : Os) (started : os.Started) (H : Type) (enc : TypeId × Value → H) (F : Stop.Interp) :
    ReturnsInHanded {} Tryz.checked os 6 .any ((Rows.OpenSpec.upto Rows.drainedSpec).preRow enc Tryz.prog Tryz.f6 Rows.drainedUptoRow.domain false Rows.drainedUptoRow.laid) (((Rows.OpenSpec.upto Rows.drainedSpec).at F).post enc Tryz.prog Tryz.f6 false true false false) := by
  obtain ⟨places, hx⟩ := reads os enc
  refine returnsInHanded_of_row (C := Tryz.checked) (s := Rows.OpenSpec.upto Rows.drainedSpec) own started (by kernel_rfl) Tryz.func6
    (witness_row_at (enc := enc) (C := Tryz.checked) false (laidWorld os) #[.slice none 0 0, .string ⟨#[]⟩] rfl (by kernel_rfl) (by kernel_rfl) (by kernel_rfl)
      (OpenSpec.preRow_of_cond 8 hx (by kernel_rfl) (fun k hk => by cases hk; kernel_rfl) (by kernel_rfl) (laid_met os))) ?_
  intro W base args ds gs before hval hW _ hcond _ hL _ _
  exact contract hlaw H enc W base args ds gs before hval hW hL (hcond _ rfl)

theorem saidUpto (hlaw : DrainedLaw) : Rows.DrainedUptoSaid :=
  OpenClaim.holds_of_cond 6 Tryz.f6 rfl rfl rfl rfl rfl rfl rfl ⟨rfl, rfl, rfl, rfl, rfl⟩ rfl rfl rfl rfl rfl (by kernel_rfl) Tryz.func6 (by kernel_rfl)
    (of_decide_eq_true (by kernel_rfl)) (by unfold Func.isWrapper; first | (rw [if_pos (by decide +kernel)]; kernel_rfl) | (rw [if_neg (by decide +kernel)]; exact ⟨rfl, rfl⟩))
    (fun os started H enc _ F => by rw [OpenClaim.pre_eq_preRow]; exact liftedUpto hlaw os started H enc F)

theorem plain (f : FuncId) (fn : Func) (hf : Tryz.pinned.checked.prog.funcNamed "hearth/hearthlaw.Drained" = some f) (hfn : Tryz.pinned.checked.prog.funcs[f]? = some fn) :
    true = Tryz.pinned.checked.prog.looks [] ∧ ∀ (j : Nat) t, fn.params[j]? = some t → Tryz.pinned.checked.prog.wantsStandIn t = false := by
  obtain rfl : f = 6 := Option.some.inj ((show Tryz.prog.funcNamed "hearth/hearthlaw.Drained" = some 6 by kernel_rfl).symm.trans hf) |>.symm
  obtain rfl : fn = Tryz.f6 := (Option.some.inj (Tryz.func6.symm.trans hfn)).symm
  refine ⟨by kernel_rfl, fun j t ht => ?_⟩
  rw [Tryz.params6] at ht
  have hm := Array.mem_of_getElem? ht
  have ht' : t = 40 ∨ t = 9 := by simpa using hm
  rcases ht' with rfl | rfl
  · exact (show Tryz.prog.wantsStandIn 40 = false by kernel_rfl)
  · exact (show Tryz.prog.wantsStandIn 9 = false by kernel_rfl)

/-- The card. -/
theorem cardUpto (hlaw : DrainedLaw) : Rows.DrainedUptoCardSaid :=
  Claim7.holds_tied_plain_at .later [] _ _ _ _ (saidUpto hlaw) (fun _ h => by cases h) (by kernel_rfl) (fun _ h => by cases h) drainedUpto_row_tie rfl ⟨rfl, rfl⟩ (by kernel_rfl) rfl plain (by kernel_rfl)
end drainedCard

theorem tab_below2 {w w' : World} {B : Nat} (hB : w.heap.size ≤ B) (h : Tab w) (hb : Below B w w') : Tab w' := by
  unfold Tab Lib.TabIs World.var? at *
  cases hg : Tryz.prog.globalNamed "internal/strconv.uint64pow10" with
  | none => simp [hg] at h
  | some g =>
    simp only [hg, Option.bind_some] at h ⊢
    have hlt : g < w.heap.size := by
      rcases Nat.lt_or_ge g w.heap.size with h' | h'
      · exact h'
      · rw [Array.getElem?_eq_none h'] at h; simp at h
    rw [hb.block g (by omega)]
    exact h

theorem drained_law : DrainedLaw := fun v os s w hl hz ho hs ht => drained_any w.heap.size w (hid fun _ hb => tab_below2 (Nat.le_refl _) ht hb) (Nat.le_refl _) v os (hid ho) hl (hid hz) s hs

/-- The statement. -/
theorem drained_card : Rows.DrainedUptoCardSaid := drainedCard.cardUpto drained_law

end Go.Proofs.YtohoddhegkjehaaGreatDoor
