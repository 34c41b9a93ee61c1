import Derived.Test.YtiiapfkcmdkkoaaGreatDoorQ18
import Derived.Lib.AppendIntMem
/-
  settle.
-/
namespace Go.Proofs.YtiiapfkcmdkkoaaGreatDoor
open Go.RowKit Go.MapKept

def tickOf : Nat → Nat
  | 0 => 8
  | 1 => 10
  | 2 => 20
  | 3 => 12
  | _ => 1
theorem tickOf_bd (i : Nat) : 1 ≤ tickOf i ∧ tickOf i ≤ 20 := by
  unfold tickOf
  split <;> omega
/-- The table of the limits' ticks. -/
def Lim (w : World) : Prop := w.cell? ⟨0, 0, none⟩ = some (.int .i64 8) ∧ w.cell? ⟨0, 1, none⟩ = some (.int .i64 10) ∧ w.cell? ⟨0, 2, none⟩ = some (.int .i64 20) ∧ w.cell? ⟨0, 3, none⟩ = some (.int .i64 12)

def Wst.stepL (W : Wst) (id : Int) (hb : Bool) (i : Nat) : Wst := if hb = true then (if (aget W.mp (id, (i : Int))).isSome = true then W else W.set (id, (i : Int)) (tickOf i)) else W.clear (id, (i : Int))
def Wst.settle (W : Wst) (id : Int) (x : CX) : Nat → Wst
  | 0 => W
  | n + 1 => (W.settle id x n).stepL id (x.lim n) n

/-- Nobody else's deadlines have turned. -/
def WStep (id : Int) (W W' : Wst) : Prop := W'.hand = W.hand ∧ ∀ c : Dl, c.1 ≠ id → aget W'.mp c = aget W.mp c
theorem WStep.refl (id : Int) (W : Wst) : WStep id W W := ⟨rfl, fun _ _ => rfl⟩
theorem WStep.trans {id : Int} {A B C : Wst} (h : WStep id A B) (k : WStep id B C) : WStep id A C := ⟨k.1.trans h.1, fun c hc => (k.2 c hc).trans (h.2 c hc)⟩
/-- The connection's deadlines stand as they should. -/
def Settled (id : Int) (x : CX) (W : Wst) : Prop := ∀ i : Nat, i < 4 → (aget W.mp (id, (i : Int))).isSome = x.lim i

theorem WF.clearStep {I : List Int} {W : Wst} (h : WF I W) (d : Dl) : WStep d.1 W (W.clear d) := ⟨clear_hand W d, fun c hc => by rw [clear_get h, if_neg (fun e => hc (by rw [e]))]⟩
theorem WF.setStep {I : List Int} {W : Wst} (h : WF I W) (d : Dl) (t : Nat) : WStep d.1 W (W.set d t) := ⟨rfl, fun c hc => by rw [set_get h, if_neg (fun e => hc (by rw [e]))]⟩

theorem WF.stepL {I : List Int} {W : Wst} (h : WF I W) {id : Int} (hI : id ∈ I) (hb : Bool) {i : Nat} (hi : i < 4) : WF I (W.stepL id hb i) ∧ WStep id W (W.stepL id hb i) ∧ (aget (W.stepL id hb i).mp (id, (i : Int))).isSome = hb ∧ ∀ k : Nat, k ≠ i → aget (W.stepL id hb i).mp (id, (k : Int)) = aget W.mp (id, (k : Int)) := by
  have hne : ∀ k : Nat, k ≠ i → ((id, (k : Int)) : Dl) ≠ (id, (i : Int)) := fun k hk e => hk (by injection e with _ e; omega)
  unfold Wst.stepL
  cases hb
  · rw [if_neg (by simp)]
    refine ⟨h.clear _, h.clearStep _, by rw [clear_get h, if_pos rfl]; rfl, fun k hk => by rw [clear_get h, if_neg (hne k hk)]⟩
  · rw [if_pos rfl]
    split
    · rename_i hs
      exact ⟨h, WStep.refl _ _, hs, fun _ _ => rfl⟩
    · have hb := tickOf_bd i
      refine ⟨h.set _ _ hb.1 hb.2 hI (by show (0 : Int) ≤ (i : Int); omega) (by show (i : Int) < 4; omega), h.setStep _ _, by rw [set_get h, if_pos rfl]; rfl, fun k hk => by rw [set_get h, if_neg (hne k hk)]⟩

theorem WF.settleN {I : List Int} {W : Wst} (h : WF I W) {id : Int} (hI : id ∈ I) (x : CX) : ∀ n, n ≤ 4 → WF I (W.settle id x n) ∧ WStep id W (W.settle id x n) ∧ ∀ i, i < n → (aget (W.settle id x n).mp (id, (i : Int))).isSome = x.lim i
  | 0, _ => ⟨h, WStep.refl _ _, fun i hi => absurd hi (Nat.not_lt_zero i)⟩
  | n + 1, hn => by
    obtain ⟨h1, h2, h3⟩ := h.settleN hI x n (by omega)
    obtain ⟨k1, k2, k3, k4⟩ := h1.stepL hI (x.lim n) (by omega : n < 4)
    refine ⟨k1, h2.trans k2, fun i hi => ?_⟩
    by_cases e : i = n
    · rw [e]; exact k3
    · show (aget ((W.settle id x n).stepL id (x.lim n) n).mp (id, (i : Int))).isSome = _
      rw [k4 i e]
      exact h3 i (by omega)

/-- Between two rounds. -/
def StA (G : Nat → Prop) (w wr : World) (wb : Nat) (W : Wst) : Prop := ∃ G', WAt G' wr wb W ∧ Upd G w wr ∧ ∀ k, G' k → G k ∨ (w.heap.size ≤ k ∧ k < wr.heap.size)
theorem StA.trans {G G1 : Nat → Prop} {w w1 w2 : World} {wb : Nat} {W : Wst} (hu : Upd G w w1) (hg : ∀ k, G1 k → G k ∨ (w.heap.size ≤ k ∧ k < w1.heap.size)) (h : StA G1 w1 w2 wb W) : StA G w w2 wb W := by
  obtain ⟨G2, h1, h2, h3⟩ := h
  refine ⟨G2, h1, ⟨h2.os.trans hu.os, h2.tape.trans hu.tape, h2.output.trans hu.output, Nat.le_trans hu.size h2.size, fun k hk hn => (h2.block k (Nat.lt_of_lt_of_le hk hu.size) (fun e => ?_)).trans (hu.block k hk hn)⟩, fun k hk => ?_⟩
  · rcases hg k e with h4 | h4
    · exact hn h4
    · omega
  · rcases h3 k hk with h4 | h4
    · rcases hg k h4 with h5 | h5
      · exact Or.inl h5
      · right; have := h2.size; omega
    · right; have := hu.size; omega
theorem StA.same {G : Nat → Prop} {w w1 w2 : World} {wb : Nat} {W : Wst} (h : StA G w w1 wb W) (hu : Same w1 w2) : StA G w w2 wb W := by
  obtain ⟨G1, h1, h2, h3⟩ := h
  exact StA.trans h2 h3 ⟨G1, h1.keep hu (fun _ _ h => h), hu.mono (fun _ _ h => h.elim), fun k hk => Or.inl hk⟩

end Go.Proofs.YtiiapfkcmdkkoaaGreatDoor

/-
  settle, walked.
-/
namespace Go.Proofs.YtiiapfkcmdkkoaaGreatDoor
open Go.RowKit Go.MapKept

theorem StA.clear {G : Nat → Prop} {I : List Int} {w wr : World} {wb : Nat} {W : Wst} (h : StA G w wr wb W) (hf : WF I W) (hI : I.length ≤ 1000) (d : Dl) :
    Calls Tryz.prog 52 #[.pointer (some ⟨wb, 0, none⟩), .agg #[.int .i64 d.1, .int .i64 d.2]] wr fun e w' => e = .returned (.tuple #[]) ∧ StA G w w' wb (W.clear d) := by
  obtain ⟨G1, h1, h2, h3⟩ := h
  refine (clear_any (hid h1) (hid (fun d j hd => (hf.fwd d j hd).1)) (hid (fun j hj => by have := hf.few hj; omega)) d).mono ?_
  rintro e w' ⟨rfl, k1, k2⟩
  exact ⟨rfl, StA.trans h2 h3 ⟨G1, k1, k2, fun k hk => Or.inl hk⟩⟩
theorem StA.has {G : Nat → Prop} {w wr : World} {wb : Nat} {W : Wst} (h : StA G w wr wb W) (d : Dl) :
    Calls Tryz.prog 56 #[.pointer (some ⟨wb, 0, none⟩), .agg #[.int .i64 d.1, .int .i64 d.2]] wr fun e w' => e = .returned (.bool (aget W.mp d).isSome) ∧ Same wr w' := by
  obtain ⟨G1, h1, h2, h3⟩ := h
  exact has_any (hid h1) d
theorem StA.set {G : Nat → Prop} {I : List Int} {w wr : World} {wb : Nat} {W : Wst} (h : StA G w wr wb W) (hf : WF I W) (hI : I.length ≤ 1000) (d : Dl) (t : Nat) (ht : t ≤ 32) :
    Calls Tryz.prog 57 #[.pointer (some ⟨wb, 0, none⟩), .agg #[.int .i64 d.1, .int .i64 d.2], .int .i64 t] wr fun e w' => e = .returned (.tuple #[]) ∧ StA G w w' wb (W.set d t) := by
  obtain ⟨G1, h1, h2, h3⟩ := h
  refine (set_any (hid h1) (hid hf) hI d t ht).mono ?_
  rintro e w' ⟨rfl, G2, k1, k2, k3⟩
  exact ⟨rfl, StA.trans h2 h3 ⟨G2, k1, k2, k3⟩⟩
theorem StA.upd {G : Nat → Prop} {w wr : World} {wb : Nat} {W : Wst} (h : StA G w wr wb W) : Upd G w wr := by
  obtain ⟨G1, h1, h2, h3⟩ := h
  exact h2

theorem idx4 (l : Nat → Bool) : ∀ (k : Nat), k < 4 → ∀ X : World, (Instr.index 108 (.agg #[.bool (l 0), .bool (l 1), .bool (l 2), .bool (l 3)]) (.int .i64 (k : Nat))).run Tryz.prog X = .ok (.bool (l k)) X
  | 0, _, X => by kernel_rfl
  | 1, _, X => by kernel_rfl
  | 2, _, X => by kernel_rfl
  | 3, _, X => by kernel_rfl
  | k + 4, h, _ => absurd h (by omega)
theorem Lim.at_ {w : World} (h : Lim w) {k : Nat} (hk : k < 4) : w.cell? ⟨0, k, none⟩ = some (.int .i64 (tickOf k)) := by
  have : k = 0 ∨ k = 1 ∨ k = 2 ∨ k = 3 := by omega
  rcases this with rfl | rfl | rfl | rfl
  · exact h.1
  · exact h.2.1
  · exact h.2.2.1
  · exact h.2.2.2

set_option maxHeartbeats 3200000 in
set_option maxRecDepth 100000 in
theorem settle_any {F G : Nat → Prop} {I : List Int} {w : World} {c S wb : Nat} {x : CX} {dv uv ov : Value} {W : Wst} (hc : Hid (Cn F w c x dv uv ov)) (hS : Hid (S < w.heap.size ∧ w.cell? ⟨S, 4, none⟩ = some (.pointer (some ⟨wb, 0, none⟩)))) (hw : Hid (WAt G w wb W)) (hf : Hid (WF I W)) (hI : Hid (x.id ∈ I)) (hI5 : I.length ≤ 1000) (dS : Hid (¬ G S)) (dc : Hid (¬ G c)) (hl : Hid (∀ X, Upd G w X → Lim X)) :
    Calls Tryz.prog 27 #[.pointer (some ⟨S, 0, none⟩), .pointer (some ⟨c, 0, none⟩)] w fun e w' => e = .returned (.tuple #[]) ∧ StA G w w' wb (W.settle x.id x 4) := by
  have HL := hid (limits_any hc)
  have HS : Hid (∀ X, Upd G w X → X.cell? ⟨S, 4, none⟩ = some (.pointer (some ⟨wb, 0, none⟩)) ∧ X.cell? ⟨c, 1, none⟩ = some (.int .i64 x.id) ∧ S < X.heap.size ∧ c < X.heap.size) := fun X hX => ⟨(hX.cell hS.out.1 dS.out).trans hS.out.2, (hX.cell (lt_of_heap hc.out.blk) dc.out).trans (cell_of_heap hc.out.blk 1), Nat.lt_of_lt_of_le hS.out.1 hX.size, Nat.lt_of_lt_of_le (lt_of_heap hc.out.blk) hX.size⟩
  have HN := hid (hf.out.settleN hI.out x)
  have H0 : Hid (StA G w w wb W) := ⟨G, hw.out, Upd.refl _ _, fun k hk => Or.inl hk⟩
  have HStep : Hid (∀ n, W.settle x.id x (n + 1) = (W.settle x.id x n).stepL x.id (x.lim n) n) := fun n => rfl
  have HZ : Hid (W.settle x.id x 0 = W) := rfl
  generalize hg : W.settle x.id x = wst at *
  clear hg hc hS hw hf hI dS dc
  have HIx := hid (idx4 x.lim)
  generalize hlm : x.lim = lm at *
  have HLm := hid hlm
  clear hlm
  go_enter Tryz.func27, Tryz.ntmps27
  go_wp2_with fail
  refine HL.out.mono ?_
  rintro e w1 ⟨rfl, hu1⟩
  have HST : Hid (StA G w w1 wb (wst 0)) := by
    have := H0.out.same hu1
    rw [← HZ.out] at this
    exact this
  clear hu1 HL H0
  generalize hla : (Value.agg #[.bool (lm 0), .bool (lm 1), .bool (lm 2), .bool (lm 3)]) = la at *
  clear hla
  go_wp2_with fail
  go_loopw [9] (fun i wr => ∃ k : Nat, i = .int .i64 k ∧ k ≤ 4 ∧ Hid (StA G w wr wb (wst k))) (fun i _ => 4 - (intOf i).toNat)
  case atStart => exact ⟨0, rfl, by omega, HST⟩
  case round =>
    obtain ⟨k, rfl, hk, hst⟩ := hrel
    clear HST
    by_cases hlt : k < 4
    · have hix := HIx.out k hlt
      obtain ⟨s0, s1, s2, s3⟩ := HS.out wr hst.out.upd
      have HW := hid (HN.out k hk).1
      have HNx := hid (HStep.out k)
      have hlt' : (k : Int) < 4 := by omega
      have hU0 : Same wr (boxD wr (x.id, (k : Int))) := (Upd.refl _ wr).alloc _
      have HS0 := hid (hst.out.same hU0)
      have hub := HS0.out.upd
      have hl0 := (hl.out _ hub).at_ hlt
      have ht := tickOf_bd k
      cases hlk : lm k
      · rw [hlk] at hix
        have HC := hid ((HS0.out.same ((Upd.refl _ _).drew)).clear HW.out hI5 (x.id, (k : Int)))
        have HE : Hid ((wst k).clear (x.id, (k : Int)) = wst (k + 1)) := by show _ = _; rw [HNx.out, hlk]; rfl
        clear hub hU0
        unfold boxD at *
        go_wp2_with fail
        go_region_with (go_at_call 52; refine HC.out.mono ?_; rintro e w2 ⟨rfl, hs2⟩; rw [HE.out] at hs2; have HX := hid hs2; clear hs2 HC)
        all_goals
          go_wp2
          exact ⟨⟨k + 1, by go_num, by omega, HX⟩, by simp [intOf]; omega⟩
      · rw [hlk] at hix
        have HH := hid ((HS0.out.same ((Upd.refl _ _).drew)).has (x.id, (k : Int)))
        cases hs : (aget (wst k).mp (x.id, (k : Int))).isSome
        · rw [hs] at HH
          have HE : Hid ((wst k).set (x.id, (k : Int)) (tickOf k) = wst (k + 1)) := by
            show _ = _
            rw [HNx.out, hlk]
            unfold Wst.stepL
            rw [if_pos rfl, if_neg (by rw [hs]; simp)]
          have HC : Hid (∀ X, Same (boxD wr (x.id, (k : Int))) X → Calls Tryz.prog 57 #[.pointer (some ⟨wb, 0, none⟩), .agg #[.int .i64 x.id, .int .i64 (k : Int)], .int .i64 (tickOf k : Nat)] X fun e w' => e = .returned (.tuple #[]) ∧ StA G w w' wb (wst (k + 1))) := fun X hX => by
            rw [← HE.out]
            exact (HS0.out.same hX).set HW.out hI5 (x.id, (k : Int)) (tickOf k) (by omega)
          have HFx : Hid (∀ X, Same (boxD wr (x.id, (k : Int))) X → (X.cell? ⟨S, 4, none⟩ = some (.pointer (some ⟨wb, 0, none⟩)) ∧ S < X.heap.size) ∧ X.cell? ⟨0, k, none⟩ = some (.int .i64 (tickOf k : Nat)) ∧ X.cell? ⟨wr.heap.size, 0, none⟩ = some (.int .i64 x.id) ∧ X.cell? ⟨wr.heap.size, 1, none⟩ = some (.int .i64 k)) := fun X hX => by
            have hu := (HS0.out.same hX).upd
            have hb := hX.keep (alloc_at wr _) (fun h => h)
            exact ⟨⟨(HS.out X hu).1, (HS.out X hu).2.2.1⟩, (hl.out X hu).at_ hlt, cell_of_heap hb 0, cell_of_heap hb 1⟩
          clear hub hU0 hs
          unfold boxD at *
          go_wp2_with fail
          go_cut [28] (fun v wx => v = .bool true ∧ Hid (Same (wr.alloc (.cells #[.int .i64 x.id, .int .i64 (k : Int)] 62)) wx))
          case first =>
            go_region_with (go_at_call 56; refine HH.out.mono ?_; rintro e w2 ⟨rfl, hu2⟩; have HU2 := hid (((Upd.refl _ _).drew).trans hu2); clear hu2 HH)
            all_goals
              go_wp2_with fail
              go_meet
              exact ⟨rfl, HU2⟩
          case rest =>
            obtain ⟨rfl, hu⟩ := hcut
            obtain ⟨⟨y0, y1⟩, y2, y3, y4⟩ := HFx.out wc hu.out
            have HCC := hid (HC.out wc.drew (hu.out.trans ((Upd.refl _ _).drew)))
            clear HFx HC HH
            go_wp2_with fail
            go_region_with (go_at_call 57; refine HCC.out.mono ?_; rintro e w3 ⟨rfl, hs3⟩; have HX := hid hs3; clear hs3 HCC)
            all_goals
              go_wp2
              exact ⟨⟨k + 1, by go_num, by omega, HX⟩, by simp [intOf]; omega⟩
        · rw [hs] at HH
          have HE : Hid (wst k = wst (k + 1)) := by
            show _ = _
            rw [HNx.out, hlk]
            unfold Wst.stepL
            rw [if_pos rfl, if_pos hs]
          have HXx : Hid (∀ X, Same (boxD wr (x.id, (k : Int))) X → StA G w X wb (wst (k + 1))) := fun X hX => by
            rw [← HE.out]
            exact HS0.out.same hX
          clear hub hU0 hs
          unfold boxD at *
          go_wp2_with fail
          go_cut [28] (fun v wx => v = .bool false ∧ Hid (Same (wr.alloc (.cells #[.int .i64 x.id, .int .i64 (k : Int)] 62)) wx))
          case first =>
            go_region_with (go_at_call 56; refine HH.out.mono ?_; rintro e w2 ⟨rfl, hu2⟩; have HU2 := hid (((Upd.refl _ _).drew).trans hu2); clear hu2 HH)
            all_goals
              go_wp2_with fail
              go_meet
              exact ⟨rfl, HU2⟩
          case rest =>
            obtain ⟨rfl, hu⟩ := hcut
            have HX := hid (HXx.out wc hu.out)
            clear HXx HH hu
            go_wp2
            exact ⟨⟨k + 1, by go_num, by omega, HX⟩, by simp [intOf]; omega⟩
    · obtain rfl : k = 4 := by omega
      go_wp2
      exact bodyPost_end (v := .tuple #[]) (by simp [results, Tryz.results27, go_sem]) rfl ⟨rfl, hst.out⟩

end Go.Proofs.YtiiapfkcmdkkoaaGreatDoor
