import Derived.Test.YtiiapfkcmdkkoaaGreatDoorQ13
import Derived.Test.YtiiapfkcmdkkoaaGreatDoorQ17
/-
  What a connection does: resting's read; the connection in memory.
-/
namespace Go.Proofs.YtiiapfkcmdkkoaaGreatDoor
open Go.RowKit Go.MapKept

/-- A byte is read where nothing was. -/
def RestStep (w w' : World) (σ' : RS) (e : Ending) : Prop :=
  ∃ r F', Rd F' w' r σ' ∧ Upd (fun _ => False) w w' ∧ (∀ k, F' k → w.heap.size ≤ k ∧ k < w'.heap.size) ∧
    ((σ'.tag ≠ 0 ∧ e = .returned (.tuple #[readingV σ'.headOver r, .pointer none])) ∨ (σ'.tag = 0 ∧ ∃ p, e = .returned (.tuple #[restingV, .pointer (some ⟨p, 0, none⟩)]) ∧ w'.heap[p]? = some (.cells (reqCells σ'.req) 160 (0, 0)) ∧ w.heap.size ≤ p ∧ p < w'.heap.size))

theorem good_start : Good RS.start := {
  tag := by decide
  met := fun _ => by decide
  ph := by decide
  kept := fun _ => by decide
  least := fun _ h => by exact absurd h (by decide)
  size := by rintro f (rfl | rfl | rfl | rfl | rfl | rfl) <;> decide
  room := fun _ => by decide
  name := by intro c hc; cases hc
  value := by intro c hc; cases hc
  signs := by intro c hc; cases hc
  four := by decide
  got := fun h => by exact absurd h (by decide)
  len := by decide }

set_option maxHeartbeats 800000 in
theorem restingRead_any (w : World) (b : UInt8) (g2 : Hid (Good (RS.start.read b))) :
    Calls Tryz.prog 166 #[.agg #[], .int .u8 b.toNat] w fun e w' => RestStep w w' (RS.start.read b) e := by
  have hU0 : Upd (fun _ => False) w (w.alloc (.cells #[] 67)) := (Upd.refl _ w).alloc _
  have HU0 := hid hU0
  clear hU0
  go_enter Tryz.func166, Tryz.ntmps166
  go_wp2_with fail
  refine (newReader_any _).mono ?_
  rintro e w1 ⟨rfl, ⟨F1, hr1, hf1⟩, hu1⟩
  have HR1 := hid hr1
  have HF1 := hid hf1
  have HU1 := hid (HU0.out.trans hu1)
  have hsz : (w.alloc (.cells #[] 67)).heap.size = w.heap.size + 1 := by simp
  rw [hsz] at HR1 HF1
  have HSZ := hid hsz
  clear hr1 hf1 hu1 hsz
  go_wp2_with fail
  refine (readingRead_any b HR1 (hid good_start) g2 (by decide) (by decide)).mono ?_
  rintro e w2 hst
  have HE : Hid (RestStep w w2 (RS.start.read b) e) := by
    obtain ⟨F2, k1, k2, k3, k4⟩ := hst
    refine ⟨w.heap.size + 1, F2, k1, ⟨k2.os.trans HU1.out.os, k2.tape.trans HU1.out.tape, k2.output.trans HU1.out.output, Nat.le_trans HU1.out.size k2.size, fun k hk _ => (k2.block k (Nat.lt_of_lt_of_le hk HU1.out.size) (fun e => ?_)).trans (HU1.out.block k hk (fun h => h))⟩, fun k hk => ?_, ?_⟩
    · have := HF1.out k e; omega
    · rcases k3 k hk with h1 | h1
      · have := HF1.out k h1; have := k2.size; omega
      · have := HU1.out.size; omega
    · rcases k4 with k4 | ⟨k5, p, k6, k7, k8, k9⟩
      · exact Or.inl k4
      · exact Or.inr ⟨k5, p, k6, k7, by have := HU1.out.size; omega, k9⟩
  obtain ⟨F2, k1, k2, k3, k4⟩ := id hst
  clear hst k1 k2 k3
  rcases k4 with ⟨_, rfl⟩ | ⟨_, p, rfl, _⟩
  · cases hho : (RS.start.read b).headOver
    all_goals
      rw [hho] at HE
      unfold readingV at *
      go_wp2
      go_ret2
      exact HE.out
  · unfold restingV at *
    go_wp2
    go_ret2
    exact HE.out

/-- A connection: what it does (0 rests, 1 reads, 2 leaves), its reader, what waits to be read and to be taken. -/
structure CX where
  kind : Nat
  σ : RS
  unread : List UInt8
  out : List UInt8
  id : Int

def Doing (F : Nat → Prop) (w : World) (c : Nat) (uv ov : Value) (x : CX) (dv : Value) : Prop :=
  (x.kind = 0 ∧ dv = restingV) ∨ (x.kind = 1 ∧ x.σ.tag ≠ 0 ∧ Good x.σ ∧ ∃ r Fr, dv = readingV x.σ.headOver r ∧ Rd Fr w r x.σ ∧ ∀ k, Fr k → F k ∧ k ≠ c ∧ uv.ownBlock ≠ some k ∧ ov.ownBlock ≠ some k) ∨ (x.kind = 2 ∧ dv = leavingV)

/-- The connection in memory, in the blocks F. -/
structure Cn (F : Nat → Prop) (w : World) (c : Nat) (x : CX) (dv uv ov : Value) : Prop where
  blk : w.heap[c]? = some (.cells #[dv, .int .i64 x.id, uv, ov] 77 (0, 0))
  ru : Row w uv x.unread
  ro : Row w ov x.out
  sep : ∀ k, uv.ownBlock = some k → ov.ownBlock ≠ some k
  fc : F c
  fu : ∀ k, uv.ownBlock = some k → F k
  fo : ∀ k, ov.ownBlock = some k → F k
  lt : ∀ k, F k → k < w.heap.size
  doing : Doing F w c uv ov x dv

theorem Cn.keep {F M : Nat → Prop} {w w' : World} {c : Nat} {x : CX} {dv uv ov : Value} (h : Cn F w c x dv uv ov) (hu : Upd M w w') (hd : ∀ k, F k → ¬ M k) : Cn F w' c x dv uv ov := {
  blk := hu.keep h.blk (hd _ h.fc)
  ru := h.ru.keep hu fun k hk => hd k (h.fu k hk)
  ro := h.ro.keep hu fun k hk => hd k (h.fo k hk)
  sep := h.sep
  fc := h.fc
  fu := h.fu
  fo := h.fo
  lt := fun k hk => Nat.lt_of_lt_of_le (h.lt k hk) hu.size
  doing := by
    rcases h.doing with h1 | ⟨h1, h2, h3, r, Fr, h4, h5, h6⟩ | h1
    · exact Or.inl h1
    · exact Or.inr (Or.inl ⟨h1, h2, h3, r, Fr, h4, h5.keep hu (fun k hk => hd k (h6 k hk).1), h6⟩)
    · exact Or.inr (Or.inr h1) }

end Go.Proofs.YtiiapfkcmdkkoaaGreatDoor

/-
  Server.read.
-/
namespace Go.Proofs.YtiiapfkcmdkkoaaGreatDoor
open Go.RowKit Go.MapKept

def ReadAny (G : Nat → Prop) (w w' : World) (σ' : RS) (e : Ending) : Prop :=
  ∃ r F', Rd F' w' r σ' ∧ Upd G w w' ∧ (∀ k, F' k → G k ∨ (w.heap.size ≤ k ∧ k < w'.heap.size)) ∧
    ((σ'.tag ≠ 0 ∧ e = .returned (.tuple #[readingV σ'.headOver r, .pointer none])) ∨ (σ'.tag = 0 ∧ ∃ p, e = .returned (.tuple #[restingV, .pointer (some ⟨p, 0, none⟩)]) ∧ w'.heap[p]? = some (.cells (reqCells σ'.req) 160 (0, 0)) ∧ w.heap.size ≤ p ∧ p < w'.heap.size))

/-- The reader that a byte comes to. -/
def CX.rd (x : CX) : RS := if x.kind = 0 then RS.start else x.σ

/-- What the connection's next byte does, called through the interface. -/
theorem doing_calls {F : Nat → Prop} {w : World} {c : Nat} {x : CX} {dv uv ov : Value} (h : Cn F w c x dv uv ov) (hk : x.kind ≠ 2) (hct : x.σ.count ≤ 1000000000) (b : UInt8) (g2 : Good (x.rd.read b)) :
    ∃ ty rv f G, dv = .iface ty rv ∧ (∀ W : World, (method 395 ty rv "hearth/hearth.read").run Tryz.prog W = .ok (f, rv) W) ∧ Ent f ∧ (∀ k, G k → F k ∧ k ≠ c ∧ uv.ownBlock ≠ some k ∧ ov.ownBlock ≠ some k) ∧
      Calls Tryz.prog f #[rv, .int .u8 b.toNat] w fun e w' => ReadAny G w w' (x.rd.read b) e := by
  rcases h.doing with ⟨h1, rfl⟩ | ⟨h1, h2, h3, r, Fr, rfl, h5, h6⟩ | ⟨h1, _⟩
  · have e : x.rd = RS.start := by unfold CX.rd; rw [if_pos h1]
    rw [e] at g2 ⊢
    refine ⟨_, _, 166, fun _ => False, rfl, fun W => by kernel_rfl, enters_of Tryz.func166 (by kernel_rfl) rfl, fun k h => h.elim, ?_⟩
    refine (restingRead_any w b (hid g2)).mono ?_
    rintro e w' ⟨r, F', k1, k2, k3, k4⟩
    exact ⟨r, F', k1, k2, fun k hk => Or.inr (k3 k hk), k4⟩
  · have e : x.rd = x.σ := by unfold CX.rd; rw [if_neg (by omega)]
    rw [e] at g2 ⊢
    refine ⟨_, _, 168, Fr, rfl, fun W => by cases x.σ.headOver <;> kernel_rfl, enters_of Tryz.func168 (by kernel_rfl) rfl, h6, ?_⟩
    refine (readingRead_any b (hid h5) (hid h3) (hid g2) h2 hct).mono ?_
    rintro e w' ⟨F', k1, k2, k3, k4⟩
    exact ⟨r, F', k1, k2, k3, k4⟩
  · exact absurd h1 hk

end Go.Proofs.YtiiapfkcmdkkoaaGreatDoor

/-
  What limits hold for a connection.
-/
namespace Go.Proofs.YtiiapfkcmdkkoaaGreatDoor
open Go.RowKit Go.MapKept

def CX.lim (x : CX) : Nat → Bool
  | 0 => decide (x.kind = 0) && decide (x.out = [])
  | 1 => decide (x.kind = 1) && !x.σ.headOver
  | 2 => decide (x.kind = 1) && x.σ.headOver
  | 3 => !decide (x.out = [])
  | _ => false

theorem Cn.qu3 {F : Nat → Prop} {w : World} {c : Nat} {x : CX} {dv uv ov : Value} (h : Cn F w c x dv uv ov) : Qu w c 3 #[dv, .int .i64 x.id, uv, ov] 77 ov x.out := ⟨h.blk, rfl, h.ro, by decide⟩

theorem Cn.dvs {F : Nat → Prop} {w : World} {c : Nat} {x : CX} {dv uv ov : Value} (h : Cn F w c x dv uv ov) : (x.kind = 0 ∧ dv = restingV) ∨ (∃ r, x.kind = 1 ∧ x.σ.headOver = false ∧ dv = readingV false r) ∨ (∃ r, x.kind = 1 ∧ x.σ.headOver = true ∧ dv = readingV true r) ∨ (x.kind = 2 ∧ dv = leavingV) := by
  rcases h.doing with h1 | ⟨h1, h2, h3, r, Fr, rfl, h5, h6⟩ | h1
  · exact Or.inl h1
  · cases hh : x.σ.headOver
    · exact Or.inr (Or.inl ⟨r, h1, rfl, rfl⟩)
    · exact Or.inr (Or.inr (Or.inl ⟨r, h1, rfl, rfl⟩))
  · exact Or.inr (Or.inr (Or.inr h1))

theorem ta00 (W : World) : (Instr.typeAssert (.iface 67 (.agg #[])) 69 67 true).run Tryz.prog W = .ok (.tuple #[.agg #[], .bool true]) W := by kernel_rfl
theorem ta10 (r : Nat) (W : World) : (Instr.typeAssert (.iface 143 (.agg #[.pointer (some ⟨r, 0, none⟩)])) 69 67 true).run Tryz.prog W = .ok (.tuple #[.agg #[], .bool false]) W := by kernel_rfl
theorem ta11 (r : Nat) (W : World) : (Instr.typeAssert (.iface 143 (.agg #[.pointer (some ⟨r, 0, none⟩)])) 69 143 true).run Tryz.prog W = .ok (.tuple #[.agg #[.pointer (some ⟨r, 0, none⟩)], .bool true]) W := by kernel_rfl
theorem ta20 (r : Nat) (W : World) : (Instr.typeAssert (.iface 144 (.agg #[.pointer (some ⟨r, 0, none⟩)])) 69 67 true).run Tryz.prog W = .ok (.tuple #[.agg #[], .bool false]) W := by kernel_rfl
theorem ta21 (r : Nat) (W : World) : (Instr.typeAssert (.iface 144 (.agg #[.pointer (some ⟨r, 0, none⟩)])) 69 143 true).run Tryz.prog W = .ok (.tuple #[.agg #[.pointer none], .bool false]) W := by kernel_rfl
theorem ta22 (r : Nat) (W : World) : (Instr.typeAssert (.iface 144 (.agg #[.pointer (some ⟨r, 0, none⟩)])) 69 144 true).run Tryz.prog W = .ok (.tuple #[.agg #[.pointer (some ⟨r, 0, none⟩)], .bool true]) W := by kernel_rfl
theorem ta30 (W : World) : (Instr.typeAssert (.iface 100 (.agg #[])) 69 67 true).run Tryz.prog W = .ok (.tuple #[.agg #[], .bool false]) W := by kernel_rfl
theorem ta31 (W : World) : (Instr.typeAssert (.iface 100 (.agg #[])) 69 143 true).run Tryz.prog W = .ok (.tuple #[.agg #[.pointer none], .bool false]) W := by kernel_rfl
theorem ta32 (W : World) : (Instr.typeAssert (.iface 100 (.agg #[])) 69 144 true).run Tryz.prog W = .ok (.tuple #[.agg #[.pointer none], .bool false]) W := by kernel_rfl

/-- The result's array is laid. -/
theorem lim_end {w w1 X : World} {A B : Nat} {t : TypeId} (hU : ∀ M : World, Upd (fun k => k = A ∨ k = B) w1 M → Same w M) (hX : Upd (fun k => k = B) w1 X) (hA : w1.heap[A]? = some (.cells #[.bool false, .bool false, .bool false, .bool false] t (0, 0))) (hAB : A ≠ B) (v0 v1 v2 v3 : Value) :
    (((((X.setCell ⟨A, 0, none⟩ v0).setCell ⟨A, 1, none⟩ v1).setCell ⟨A, 2, none⟩ v2).setCell ⟨A, 3, none⟩ v3).cell? ⟨A, 0, none⟩ = some v0 ∧ ((((X.setCell ⟨A, 0, none⟩ v0).setCell ⟨A, 1, none⟩ v1).setCell ⟨A, 2, none⟩ v2).setCell ⟨A, 3, none⟩ v3).cell? ⟨A, 1, none⟩ = some v1 ∧ ((((X.setCell ⟨A, 0, none⟩ v0).setCell ⟨A, 1, none⟩ v1).setCell ⟨A, 2, none⟩ v2).setCell ⟨A, 3, none⟩ v3).cell? ⟨A, 2, none⟩ = some v2 ∧ ((((X.setCell ⟨A, 0, none⟩ v0).setCell ⟨A, 1, none⟩ v1).setCell ⟨A, 2, none⟩ v2).setCell ⟨A, 3, none⟩ v3).cell? ⟨A, 3, none⟩ = some v3) ∧
      Same w ((((X.setCell ⟨A, 0, none⟩ v0).setCell ⟨A, 1, none⟩ v1).setCell ⟨A, 2, none⟩ v2).setCell ⟨A, 3, none⟩ v3) := by
  have h0 := hX.keep hA hAB
  have h1 := heap_setCell h0 0 v0
  have h2 := heap_setCell h1 1 v1
  have h3 := heap_setCell h2 2 v2
  have h4 := heap_setCell h3 3 v3
  refine ⟨⟨by rw [cell_of_heap h4]; simp, by rw [cell_of_heap h4]; simp, by rw [cell_of_heap h4]; simp, by rw [cell_of_heap h4]; simp⟩, hU _ ?_⟩
  exact ((((hX.mono (fun _ _ h => Or.inr h)).trans ((Upd.one _ _ _ _).mono (fun _ _ h => Or.inl h))).trans ((Upd.one _ _ _ _).mono (fun _ _ h => Or.inl h))).trans ((Upd.one _ _ _ _).mono (fun _ _ h => Or.inl h))).trans ((Upd.one _ _ _ _).mono (fun _ _ h => Or.inl h))

set_option maxHeartbeats 1600000 in
set_option maxRecDepth 100000 in
theorem limits_any {F : Nat → Prop} {w : World} {c : Nat} {x : CX} {dv uv ov : Value} (h : Hid (Cn F w c x dv uv ov)) :
    Calls Tryz.prog 55 #[.pointer (some ⟨c, 0, none⟩)] w fun e w' => e = .returned (.agg #[.bool (x.lim 0), .bool (x.lim 1), .bool (x.lim 2), .bool (x.lim 3)]) ∧ Same w w' := by
  have HQ : Hid (∀ W, Same w W → Calls Tryz.prog 63 #[.pointer (some ⟨c, 3, none⟩)] W fun e w' => e = .returned (.int .i64 x.out.length) ∧ Same W w') := fun W hW => qsize_any (hid (h.out.keep hW (fun _ _ h => h)).qu3)
  have HC : Hid (∀ W, Same w W → W.cell? ⟨c, 0, none⟩ = some dv) := fun W hW => cell_of_heap (h.out.keep hW (fun _ _ h => h)).blk 0
  have hcl := lt_of_heap h.out.blk
  have hd := h.out.dvs
  have hz0 : ((w.alloc (.cells #[.bool false, .bool false, .bool false, .bool false] 108)).alloc (.cells #[.bool false, .bool false, .bool false, .bool false] 108)).heap.size = w.heap.size + 2 := by simp
  have HX : Hid (Same w ((w.alloc (.cells #[.bool false, .bool false, .bool false, .bool false] 108)).alloc (.cells #[.bool false, .bool false, .bool false, .bool false] 108))) := ((Upd.refl _ w).alloc _).alloc _
  have HA : Hid (((w.alloc (.cells #[.bool false, .bool false, .bool false, .bool false] 108)).alloc (.cells #[.bool false, .bool false, .bool false, .bool false] 108)).heap[w.heap.size]? = some (.cells #[.bool false, .bool false, .bool false, .bool false] 108 (0, 0))) := ((Upd.refl (fun _ => False) _).alloc _).keep (alloc_at w _) (fun h => h)
  have HB : Hid (((w.alloc (.cells #[.bool false, .bool false, .bool false, .bool false] 108)).alloc (.cells #[.bool false, .bool false, .bool false, .bool false] 108)).heap[w.heap.size + 1]? = some (.cells #[.bool false, .bool false, .bool false, .bool false] 108 (0, 0))) := by
    have := alloc_at (w.alloc (.cells #[.bool false, .bool false, .bool false, .bool false] 108)) (.cells #[.bool false, .bool false, .bool false, .bool false] 108)
    rw [show (w.alloc (.cells #[.bool false, .bool false, .bool false, .bool false] 108)).heap.size = w.heap.size + 1 by simp] at this
    exact this
  clear h
  have t00 := ta00
  have t10 := ta10
  have t11 := ta11
  have t20 := ta20
  have t21 := ta21
  have t22 := ta22
  have t30 := ta30
  have t31 := ta31
  have t32 := ta32
  go_enter Tryz.func55, Tryz.ntmps55
  go_wp2_with fail
  refine (HQ.out _ HX.out).mono ?_
  rintro e w1 ⟨rfl, hu1⟩
  have HU1 := hid (HX.out.trans hu1)
  have c0 := HC.out w1 HU1.out
  have hA1 := hu1.keep HA.out (fun h => h)
  have hB1 := hu1.keep HB.out (fun h => h)
  clear hu1 HX HA HB HQ HC hz0
  generalize hAz : w.heap.size = A at *
  generalize hBz : A + 1 = B at *
  have hAB : A ≠ B := by omega
  have hBA : B ≠ A := by omega
  have a0 := cell_of_heap hA1 0
  have a1 := cell_of_heap hA1 1
  have a2 := cell_of_heap hA1 2
  have a3 := cell_of_heap hA1 3
  have a4 := unfrozen_of_heap hA1
  have b0 := cell_of_heap hB1 0
  have b1 := cell_of_heap hB1 1
  have b2 := cell_of_heap hB1 2
  have b3 := cell_of_heap hB1 3
  have b4 := unfrozen_of_heap hB1
  simp only [List.getElem?_toArray, List.getElem?_cons_zero, List.getElem?_cons_succ] at a0 a1 a2 a3 b0 b1 b2 b3
  have HEnd : Hid (∀ M : World, Upd (fun k => k = A ∨ k = B) w1 M → Same w M) := fun M hM => by
    refine ⟨hM.os.trans HU1.out.os, hM.tape.trans HU1.out.tape, hM.output.trans HU1.out.output, Nat.le_trans HU1.out.size hM.size, fun k hk hn => ?_⟩
    rw [hM.block k (Nat.lt_of_lt_of_le hk HU1.out.size) (by omega)]
    exact HU1.out.block k hk hn
  have HA1 := hid hA1
  clear hA1 hB1
  by_cases ho : x.out = []
  · have hlen : (x.out.length : Int) = 0 := by rw [ho]; rfl
    have HO := hid ho
    clear ho
    simp only [hlen]
    rcases hd with ⟨hk, rfl⟩ | ⟨r, hk, hh, rfl⟩ | ⟨r, hk, hh, rfl⟩ | ⟨hk, rfl⟩
    · replace c0 : w1.cell? ⟨c, 0, none⟩ = some (.iface 67 (.agg #[])) := c0
      have HV : Hid (x.lim 0 = true ∧ x.lim 1 = false ∧ x.lim 2 = false ∧ x.lim 3 = false) := by
        show _ ∧ _ ∧ _ ∧ _
        simp [CX.lim, hk, HO.out]
      have HZ := hid (lim_end HEnd.out ((Upd.one w1 B 3 (.bool false)).trans (Upd.one _ B 0 (.bool true))) HA1.out hAB (.bool true) (.bool false) (.bool false) (.bool false))
      go_wp2
      obtain ⟨⟨z0, z1, z2, z3⟩, hsm⟩ := HZ.out
      refine bodyPost_ret (v := .agg #[.bool true, .bool false, .bool false, .bool false]) (by simp [results, Tryz.results55, go_sem, z0, z1, z2, z3]) rfl ⟨?_, hsm⟩
      rw [HV.out.1, HV.out.2.1, HV.out.2.2.1, HV.out.2.2.2]
    · replace c0 : w1.cell? ⟨c, 0, none⟩ = some (.iface 143 (.agg #[.pointer (some ⟨r, 0, none⟩)])) := c0
      have HV : Hid (x.lim 0 = false ∧ x.lim 1 = true ∧ x.lim 2 = false ∧ x.lim 3 = false) := by
        show _ ∧ _ ∧ _ ∧ _
        simp [CX.lim, hk, hh, HO.out]
      have HZ := hid (lim_end HEnd.out ((Upd.one w1 B 3 (.bool false)).trans (Upd.one _ B 1 (.bool true))) HA1.out hAB (.bool false) (.bool true) (.bool false) (.bool false))
      go_wp2
      obtain ⟨⟨z0, z1, z2, z3⟩, hsm⟩ := HZ.out
      refine bodyPost_ret (v := .agg #[.bool false, .bool true, .bool false, .bool false]) (by simp [results, Tryz.results55, go_sem, z0, z1, z2, z3]) rfl ⟨?_, hsm⟩
      rw [HV.out.1, HV.out.2.1, HV.out.2.2.1, HV.out.2.2.2]
    · replace c0 : w1.cell? ⟨c, 0, none⟩ = some (.iface 144 (.agg #[.pointer (some ⟨r, 0, none⟩)])) := c0
      have HV : Hid (x.lim 0 = false ∧ x.lim 1 = false ∧ x.lim 2 = true ∧ x.lim 3 = false) := by
        show _ ∧ _ ∧ _ ∧ _
        simp [CX.lim, hk, hh, HO.out]
      have HZ := hid (lim_end HEnd.out ((Upd.one w1 B 3 (.bool false)).trans (Upd.one _ B 2 (.bool true))) HA1.out hAB (.bool false) (.bool false) (.bool true) (.bool false))
      go_wp2
      obtain ⟨⟨z0, z1, z2, z3⟩, hsm⟩ := HZ.out
      refine bodyPost_ret (v := .agg #[.bool false, .bool false, .bool true, .bool false]) (by simp [results, Tryz.results55, go_sem, z0, z1, z2, z3]) rfl ⟨?_, hsm⟩
      rw [HV.out.1, HV.out.2.1, HV.out.2.2.1, HV.out.2.2.2]
    · replace c0 : w1.cell? ⟨c, 0, none⟩ = some (.iface 100 (.agg #[])) := c0
      have HV : Hid (x.lim 0 = false ∧ x.lim 1 = false ∧ x.lim 2 = false ∧ x.lim 3 = false) := by
        show _ ∧ _ ∧ _ ∧ _
        simp [CX.lim, hk, HO.out]
      have HZ := hid (lim_end HEnd.out (Upd.one w1 B 3 (.bool false)) HA1.out hAB (.bool false) (.bool false) (.bool false) (.bool false))
      go_wp2
      obtain ⟨⟨z0, z1, z2, z3⟩, hsm⟩ := HZ.out
      refine bodyPost_ret (v := .agg #[.bool false, .bool false, .bool false, .bool false]) (by simp [results, Tryz.results55, go_sem, z0, z1, z2, z3]) rfl ⟨?_, hsm⟩
      rw [HV.out.1, HV.out.2.1, HV.out.2.2.1, HV.out.2.2.2]
  · have hlen : 0 < (x.out.length : Int) := by have := List.length_pos_iff.2 ho; omega
    have HO := hid ho
    clear ho
    generalize (x.out.length : Int) = n at hlen
    rcases hd with ⟨hk, rfl⟩ | ⟨r, hk, hh, rfl⟩ | ⟨r, hk, hh, rfl⟩ | ⟨hk, rfl⟩
    · replace c0 : w1.cell? ⟨c, 0, none⟩ = some (.iface 67 (.agg #[])) := c0
      have HV : Hid (x.lim 0 = false ∧ x.lim 1 = false ∧ x.lim 2 = false ∧ x.lim 3 = true) := by
        show _ ∧ _ ∧ _ ∧ _
        simp [CX.lim, hk, HO.out]
      have HZ := hid (lim_end HEnd.out ((Upd.one w1 B 3 (.bool true)).trans (Upd.one _ B 0 (.bool false))) HA1.out hAB (.bool false) (.bool false) (.bool false) (.bool true))
      go_wp2
      obtain ⟨⟨z0, z1, z2, z3⟩, hsm⟩ := HZ.out
      refine bodyPost_ret (v := .agg #[.bool false, .bool false, .bool false, .bool true]) (by simp [results, Tryz.results55, go_sem, z0, z1, z2, z3]) rfl ⟨?_, hsm⟩
      rw [HV.out.1, HV.out.2.1, HV.out.2.2.1, HV.out.2.2.2]
    · replace c0 : w1.cell? ⟨c, 0, none⟩ = some (.iface 143 (.agg #[.pointer (some ⟨r, 0, none⟩)])) := c0
      have HV : Hid (x.lim 0 = false ∧ x.lim 1 = true ∧ x.lim 2 = false ∧ x.lim 3 = true) := by
        show _ ∧ _ ∧ _ ∧ _
        simp [CX.lim, hk, hh, HO.out]
      have HZ := hid (lim_end HEnd.out ((Upd.one w1 B 3 (.bool true)).trans (Upd.one _ B 1 (.bool true))) HA1.out hAB (.bool false) (.bool true) (.bool false) (.bool true))
      go_wp2
      obtain ⟨⟨z0, z1, z2, z3⟩, hsm⟩ := HZ.out
      refine bodyPost_ret (v := .agg #[.bool false, .bool true, .bool false, .bool true]) (by simp [results, Tryz.results55, go_sem, z0, z1, z2, z3]) rfl ⟨?_, hsm⟩
      rw [HV.out.1, HV.out.2.1, HV.out.2.2.1, HV.out.2.2.2]
    · replace c0 : w1.cell? ⟨c, 0, none⟩ = some (.iface 144 (.agg #[.pointer (some ⟨r, 0, none⟩)])) := c0
      have HV : Hid (x.lim 0 = false ∧ x.lim 1 = false ∧ x.lim 2 = true ∧ x.lim 3 = true) := by
        show _ ∧ _ ∧ _ ∧ _
        simp [CX.lim, hk, hh, HO.out]
      have HZ := hid (lim_end HEnd.out ((Upd.one w1 B 3 (.bool true)).trans (Upd.one _ B 2 (.bool true))) HA1.out hAB (.bool false) (.bool false) (.bool true) (.bool true))
      go_wp2
      obtain ⟨⟨z0, z1, z2, z3⟩, hsm⟩ := HZ.out
      refine bodyPost_ret (v := .agg #[.bool false, .bool false, .bool true, .bool true]) (by simp [results, Tryz.results55, go_sem, z0, z1, z2, z3]) rfl ⟨?_, hsm⟩
      rw [HV.out.1, HV.out.2.1, HV.out.2.2.1, HV.out.2.2.2]
    · replace c0 : w1.cell? ⟨c, 0, none⟩ = some (.iface 100 (.agg #[])) := c0
      have HV : Hid (x.lim 0 = false ∧ x.lim 1 = false ∧ x.lim 2 = false ∧ x.lim 3 = true) := by
        show _ ∧ _ ∧ _ ∧ _
        simp [CX.lim, hk, HO.out]
      have HZ := hid (lim_end HEnd.out (Upd.one w1 B 3 (.bool true)) HA1.out hAB (.bool false) (.bool false) (.bool false) (.bool true))
      go_wp2
      obtain ⟨⟨z0, z1, z2, z3⟩, hsm⟩ := HZ.out
      refine bodyPost_ret (v := .agg #[.bool false, .bool false, .bool false, .bool true]) (by simp [results, Tryz.results55, go_sem, z0, z1, z2, z3]) rfl ⟨?_, hsm⟩
      rw [HV.out.1, HV.out.2.1, HV.out.2.2.1, HV.out.2.2.2]

end Go.Proofs.YtiiapfkcmdkkoaaGreatDoor
