import Derived.Test.YtiiapfkcmdkkoaaGreatDoorQ19
import Derived.Defers
import Derived.Test.YtiiapfkcmdkkoaaGreatDoorQ11
import Derived.Deep.DeepCutAuto
/-
  forget.
-/
namespace Go.Proofs.YtiiapfkcmdkkoaaGreatDoor
open Go.RowKit Go.MapKept

def Wst.forget (W : Wst) (id : Int) : Nat → Wst
  | 0 => W
  | n + 1 => (W.forget id n).clear (id, (n : Int))

theorem WF.forgetN {I : List Int} {W : Wst} (h : WF I W) (id : Int) : ∀ n, WF I (W.forget id n) ∧ WStep id W (W.forget id n) ∧ ∀ i, i < n → aget (W.forget id n).mp (id, (i : Int)) = none
  | 0 => ⟨h, WStep.refl _ _, fun i hi => absurd hi (Nat.not_lt_zero i)⟩
  | n + 1 => by
    obtain ⟨h1, h2, h3⟩ := h.forgetN id n
    refine ⟨h1.clear _, h2.trans (h1.clearStep _), fun i hi => ?_⟩
    show aget ((W.forget id n).clear (id, (n : Int))).mp (id, (i : Int)) = none
    rw [clear_get h1]
    split
    · rfl
    · rename_i hne
      exact h3 i (by
        have : i ≠ n := fun e => hne (by rw [e])
        omega)

/-- All of a connection's deadlines are gone. -/
theorem WF.forgot {I J : List Int} {W : Wst} (h : WF I W) (id : Int) (hJ : ∀ i ∈ I, i ≠ id → i ∈ J) : WF J (W.forget id 4) := by
  obtain ⟨h1, _, h3⟩ := h.forgetN id 4
  refine ⟨h1.hand, h1.nd, h1.fwd, h1.bwd, h1.sn, fun d j hd => ?_, h1.dist⟩
  have hk := h1.key d j hd
  refine ⟨hJ _ hk.1 (fun e => ?_), hk.2⟩
  have := h3 d.2.toNat (by omega)
  rw [show (id, ((d.2.toNat : Nat) : Int)) = d by rw [← e]; apply Prod.ext; rfl; show ((d.2.toNat : Nat) : Int) = d.2; omega, mem_aget' h1.nd hd] at this
  cases this

set_option maxHeartbeats 3200000 in
set_option maxRecDepth 100000 in
theorem forget_any (u : FrameMode) {G : Nat → Prop} {I : List Int} {w : World} {S wb : Nat} {W : Wst} (id : Int) (hS : Hid (S < w.heap.size ∧ w.cell? ⟨S, 4, none⟩ = some (.pointer (some ⟨wb, 0, none⟩)))) (hw : Hid (WAt G w wb W)) (hf : Hid (WF I W)) (hI5 : I.length ≤ 1000) (dS : Hid (¬ G S)) :
    CallsD Tryz.prog 75 #[.pointer (some ⟨S, 0, none⟩), .int .i64 id] u w fun e u' w' => u' = u ∧ (e = .returned (.tuple #[]) ∧ StA G w w' wb (W.forget id 4)) := by
  have HS : Hid (∀ X, Upd G w X → X.cell? ⟨S, 4, none⟩ = some (.pointer (some ⟨wb, 0, none⟩)) ∧ S < X.heap.size) := fun X hX => ⟨(hX.cell hS.out.1 dS.out).trans hS.out.2, Nat.lt_of_lt_of_le hS.out.1 hX.size⟩
  have HN := hid (hf.out.forgetN id)
  have HStep : Hid (∀ n : Nat, W.forget id (n + 1) = (W.forget id n).clear (id, (n : Int))) := fun n => rfl
  have H0 : Hid (StA G w w wb (W.forget id 0)) := ⟨G, hw.out, Upd.refl _ _, fun k hk => Or.inl hk⟩
  generalize hg : W.forget id = wst at *
  clear hg hS hw hf dS
  go_enter_d Tryz.func75, Tryz.ntmps75
  go_wp2_with fail
  go_loopw [5] (fun i wr => ∃ k : Nat, i = .int .i64 k ∧ k ≤ 4 ∧ Hid (StA G w wr wb (wst k))) (fun i _ => 4 - (intOf i).toNat)
  case atStart => exact ⟨0, rfl, by omega, H0⟩
  case round =>
    obtain ⟨k, rfl, hk, hst⟩ := hrel
    clear H0
    by_cases hlt : k < 4
    · obtain ⟨s0, s1⟩ := HS.out wr hst.out.upd
      have hlt' : (k : Int) < 4 := by omega
      have HC := hid (hst.out.clear (HN.out k).1 hI5 (id, (k : Int)))
      have HE := hid (HStep.out k)
      go_wp2_with fail
      refine HC.out.mono ?_
      rintro e w2 ⟨rfl, hs2⟩
      rw [← HE.out] at hs2
      have HX := hid hs2
      clear hs2 HC
      go_wp2
      exact ⟨⟨k + 1, by go_num, by omega, HX⟩, by simp [intOf]; omega⟩
    · obtain rfl : k = 4 := by omega
      go_wp2
      exact bodyPost_end (v := .tuple #[]) (by simp [results, Tryz.results75, go_sem]) rfl ⟨rfl, hst.out⟩

end Go.Proofs.YtiiapfkcmdkkoaaGreatDoor

/-
  Server.read, walked: the request is not over.
-/
namespace Go.Proofs.YtiiapfkcmdkkoaaGreatDoor
open Go.RowKit Go.MapKept

/-- The world's table of powers stays, whatever lies from N on. -/
def Tb (N : Nat) (w : World) : Prop := ∀ w', Below N w w' → Tab w' ∧ Lim w'
theorem Tb.keep {N : Nat} {w w' : World} (h : Tb N w) (hb : Below N w w') : Tb N w' := fun w'' hb' => h w'' (hb.trans hb')

def CX.next (x : CX) (L : Texts) (u : Int) (dr : Bool) (b : UInt8) : CX :=
  if (x.rd.read b).tag = 0 then { x with kind := if (replyAns L u dr (x.rd.read b).req).last then 2 else 0, out := x.out ++ (replyAns L u dr (x.rd.read b).req).bytes } else { x with kind := 1, σ := x.rd.read b }
def CX.nextL (x : CX) (L : Texts) (u : Int) (b : UInt8) : Texts := if (x.rd.read b).tag = 0 then replyL L u (x.rd.read b).req else L
def CX.nextU (x : CX) (L : Texts) (u : Int) (b : UInt8) : Int := if (x.rd.read b).tag = 0 then replyU L u (x.rd.read b).req else u

/-- The connection's own cells are written. -/
theorem Cn.blk' {F : Nat → Prop} {w : World} {c : Nat} {x : CX} {dv uv ov : Value} (h : Cn F w c x dv uv ov) : w.cell? ⟨c, 0, none⟩ = some dv ∧ w.cell? ⟨c, 1, none⟩ = some (.int .i64 x.id) ∧ w.cell? ⟨c, 2, none⟩ = some uv ∧ w.cell? ⟨c, 3, none⟩ = some ov ∧ w.frozen? ⟨c, 0, none⟩ = false ∧ w.frozen? ⟨c, 1, none⟩ = false ∧ w.frozen? ⟨c, 2, none⟩ = false ∧ w.frozen? ⟨c, 3, none⟩ = false :=
  ⟨cell_of_heap h.blk 0, cell_of_heap h.blk 1, cell_of_heap h.blk 2, cell_of_heap h.blk 3, unfrozen_of_heap h.blk 0, unfrozen_of_heap h.blk 1, unfrozen_of_heap h.blk 2, unfrozen_of_heap h.blk 3⟩

/-- What reading a byte leaves, ahead of the deadlines. -/
def ReadP (F : Nat → Prop) (w w' : World) (c S s m cm wb made : Nat) (dr : Bool) (x' : CX) (L' : Texts) (u' : Int) : Prop :=
  ∃ F' dv' uv' ov', Cn F' w' c x' dv' uv' ov' ∧ SrvT w' S s m cm wb made dr L' u' ∧ Upd (fun k => F k ∨ k = s ∨ k = m) w w' ∧ (∀ k, F' k → F k ∨ (w.heap.size ≤ k ∧ k < w'.heap.size))

/-- What reading a byte leaves. -/
def ReadX (F G : Nat → Prop) (I : List Int) (W : Wst) (w w' : World) (c S s m cm wb made : Nat) (dr : Bool) (x' : CX) (L' : Texts) (u' : Int) : Prop :=
  ∃ F' G' W' dv' uv' ov', Cn F' w' c x' dv' uv' ov' ∧ SrvT w' S s m cm wb made dr L' u' ∧ (WAt G' w' wb W' ∧ WF I W' ∧ WStep x'.id W W' ∧ Settled x'.id x' W') ∧ Upd (fun k => F k ∨ k = s ∨ k = m ∨ G k) w w' ∧ (∀ k, F' k → F k ∨ (w.heap.size ≤ k ∧ k < w'.heap.size)) ∧ (∀ k, G' k → G k ∨ (w.heap.size ≤ k ∧ k < w'.heap.size)) ∧ ∀ k, F' k → ¬ G' k

/-- The wheel beside a connection. -/
structure WBy (N : Nat) (F G : Nat → Prop) (I : List Int) (w : World) (S s m wb : Nat) (W : Wst) : Prop where
  at_ : WAt G w wb W
  wf : WF I W
  few : I.length ≤ 1000
  dF : ∀ k, F k → ¬ G k
  dS : ¬ G S
  ds : ¬ G s
  dm : ¬ G m
  low : ∀ k, G k → N ≤ k

theorem settle_after {N : Nat} {F G : Nat → Prop} {I : List Int} {W : Wst} {w w1 : World} {c S s m cm wb made : Nat} {dr : Bool} {x : CX} {L : Texts} {u : Int} (h : ReadP F w w1 c S s m cm wb made dr x L u) (hb : WBy N F G I w S s m wb W) (hI : x.id ∈ I) (hT : Tb N w) (hN : (∀ k, F k → N ≤ k) ∧ N ≤ s ∧ N ≤ m ∧ N ≤ w.heap.size) :
    Calls Tryz.prog 27 #[.pointer (some ⟨S, 0, none⟩), .pointer (some ⟨c, 0, none⟩)] w1 fun e w2 => e = .returned (.tuple #[]) ∧ ReadX F G I W w w2 c S s m cm wb made dr x L u := by
  obtain ⟨F1, dv, uv, ov, hc, hs, hu, hf⟩ := h
  have hGlt := hb.at_.lt
  have hw1 : WAt G w1 wb W := hb.at_.keep hu (by
    rintro k hk (h1 | rfl | rfl)
    · exact hb.dF k h1 hk
    · exact hb.ds hk
    · exact hb.dm hk)
  have hF1 : ∀ k, F1 k → ¬ G k := fun k hk hg => by
    rcases hf k hk with h1 | h1
    · exact hb.dF k h1 hg
    · have := hGlt k hg; omega
  have hsz := hu.size
  refine (settle_any (hid hc) (hid ⟨lt_of_heap hs.blk, cell_of_heap hs.blk 4⟩) (hid hw1) (hid hb.wf) (hid hI) hb.few (hid hb.dS) (hid (hF1 c hc.fc)) (hid fun X hX => ?_)).mono ?_
  · refine (hT X ?_).2
    have U : Upd (fun k => (F k ∨ k = s ∨ k = m) ∨ G k) w X := (hu.mono (fun k _ h => Or.inl h)).trans (hX.mono (fun k _ h => Or.inr h))
    refine U.below hN.2.2.2 (fun k hk => ?_)
    rintro ((h1 | rfl | rfl) | h1)
    · exact absurd (hN.1 k h1) (by omega)
    · exact absurd hN.2.1 (by omega)
    · exact absurd hN.2.2.1 (by omega)
    · exact absurd (hb.low k h1) (by omega)
  · rintro e w2 ⟨rfl, G2, k1, k2, k3⟩
    obtain ⟨q1, q2, q3⟩ := hb.wf.settleN hI x 4 (Nat.le_refl _)
    have hGF : ∀ k, G k → ¬ F1 k := fun k hk hk2 => hF1 k hk2 hk
    refine ⟨rfl, F1, G2, _, dv, uv, ov, hc.keep k2 (fun k hk => hF1 k hk), hs.keep k2 hb.dS hb.ds hb.dm, ⟨k1, q1, q2, q3⟩, ?_, fun k hk => ?_, fun k hk => ?_, fun k hk hk2 => ?_⟩
    · refine (hu.mono (fun k _ h => ?_)).trans (k2.mono (fun k _ h => Or.inr (Or.inr (Or.inr h))))
      rcases h with h | h | h
      · exact Or.inl h
      · exact Or.inr (Or.inl h)
      · exact Or.inr (Or.inr (Or.inl h))
    · rcases hf k hk with h1 | h1
      · exact Or.inl h1
      · right; have := k2.size; omega
    · rcases k3 k hk with h1 | h1
      · exact Or.inl h1
      · right; omega
    · rcases k3 k hk2 with h1 | h1
      · exact hF1 k hk h1
      · have := hc.lt k hk; omega

set_option maxHeartbeats 800000 in
set_option maxRecDepth 100000 in
theorem sread_more {N : Nat} {F G : Nat → Prop} {I : List Int} {W : Wst} {w : World} {c S s m cm wb made : Nat} {dr : Bool} {x : CX} {dv uv ov : Value} {L : Texts} {u : Int} (h : Hid (Cn F w c x dv uv ov)) (hs : Hid (SrvT w S s m cm wb made dr L u)) (dS : ¬ F S) (ds : ¬ F s) (dm : ¬ F m)
    (hk : x.kind ≠ 2) (hct : x.σ.count ≤ 1000000000) (b : UInt8) (g2 : Hid (Good (x.rd.read b))) (ht : (x.rd.read b).tag ≠ 0) (hb : Hid (WBy N F G I w S s m wb W)) (hI : x.id ∈ I) (hT : Hid (Tb N w)) (hN : Hid ((∀ k, F k → N ≤ k) ∧ N ≤ s ∧ N ≤ m ∧ N ≤ w.heap.size)) :
    Calls Tryz.prog 69 #[.pointer (some ⟨S, 0, none⟩), .pointer (some ⟨c, 0, none⟩), .int .u8 b.toNat] w fun e w' => e = .returned (.tuple #[]) ∧ ReadX F G I W w w' c S s m cm wb made dr (x.next L u dr b) (x.nextL L u b) (x.nextU L u b) := by
  have HX : Hid (x.next L u dr b = { x with kind := 1, σ := x.rd.read b } ∧ x.nextL L u b = L ∧ x.nextU L u b = u) := by
    show _ ∧ _ ∧ _
    unfold CX.next CX.nextL CX.nextU; rw [if_neg ht, if_neg ht, if_neg ht]; exact ⟨rfl, rfl, rfl⟩
  rw [HX.out.1, HX.out.2.1, HX.out.2.2]
  obtain ⟨ty, rv, f, G, rfl, hm, hent, hG, hcall⟩ := doing_calls h.out hk hct b g2.out
  obtain ⟨c0, c1, c2, c3, f0, f1, f2, f3⟩ := h.out.blk'
  have hcl := lt_of_heap h.out.blk
  have HG := hid hG
  have HC := hid hcall
  have HT := hid ht
  clear hG hcall HX ht
  go_enter Tryz.func69, Tryz.ntmps69
  go_wp2_with fail
  refine HC.out.mono ?_
  rintro e w1 ⟨r, F1, k1, k2, k3, k4⟩
  obtain rfl : e = .returned (.tuple #[readingV (x.rd.read b).headOver r, .pointer none]) := by
    rcases k4 with ⟨_, h⟩ | ⟨k5, _⟩
    · exact h
    · exact absurd k5 HT.out
  clear k4
  have hcn : ¬ G c := fun e => (HG.out c e).2.1 rfl
  have d0 : w1.cell? ⟨c, 0, none⟩ = some (.iface ty rv) := (k2.cell hcl hcn).trans c0
  have g0 : w1.frozen? ⟨c, 0, none⟩ = false := (k2.frozen hcl hcn).trans f0
  have HE : Hid (ReadP F w (w1.setCell ⟨c, 0, none⟩ (readingV (x.rd.read b).headOver r)) c S s m cm wb made dr { x with kind := 1, σ := x.rd.read b } L u) := by
    have hGF : ∀ k, G k → F k := fun k hk => (HG.out k hk).1
    have U1 : Upd F w w1 := k2.mono (fun k _ hk => hGF k hk)
    have UO := Upd.one w1 c 0 (readingV (x.rd.read b).headOver r)
    have U2 : Upd F w (w1.setCell ⟨c, 0, none⟩ (readingV (x.rd.read b).headOver r)) := U1.trans (UO.mono (by rintro k _ rfl; exact h.out.fc))
    have hb1 : w1.heap[c]? = some (.cells #[.iface ty rv, .int .i64 x.id, uv, ov] 77 (0, 0)) := k2.keep h.out.blk hcn
    have ru1 : Row w1 uv x.unread := h.out.ru.keep k2 (fun k hk e => (HG.out k e).2.2.1 hk)
    have ro1 : Row w1 ov x.out := h.out.ro.keep k2 (fun k hk e => (HG.out k e).2.2.2 hk)
    have hF1c : ∀ k, F1 k → k ≠ c ∧ uv.ownBlock ≠ some k ∧ ov.ownBlock ≠ some k := by
      intro k hk
      rcases k3 k hk with h1 | h1
      · exact (HG.out k h1).2
      · exact ⟨by omega, fun e => by have := h.out.lt k (h.out.fu k e); omega, fun e => by have := h.out.lt k (h.out.fo k e); omega⟩
    have hlt1 := k1.lt
    refine ⟨fun k => F k ∨ F1 k, readingV (x.rd.read b).headOver r, uv, ov, ⟨?_, ru1.keep UO (by rintro k hk rfl; exact ru1.far hb1 (by decide) hk), ro1.keep UO (by rintro k hk rfl; exact ro1.far hb1 (by decide) hk), h.out.sep, Or.inl h.out.fc, fun k hk => Or.inl (h.out.fu k hk), fun k hk => Or.inl (h.out.fo k hk), ?_, ?_⟩, ?_, U2.mono (fun k _ h => Or.inl h), ?_⟩
    · have := heap_setCell hb1 0 (readingV (x.rd.read b).headOver r)
      simpa using this
    · rintro k (hk | hk)
      · rw [size_setCell]; exact Nat.lt_of_lt_of_le (h.out.lt k hk) k2.size
      · rw [size_setCell]; exact hlt1 k hk
    · exact Or.inr (Or.inl ⟨rfl, HT.out, g2.out, r, F1, rfl, k1.keep UO (fun k hk e => (hF1c k hk).1 e), fun k hk => ⟨Or.inr hk, hF1c k hk⟩⟩)
    · exact hs.out.keep U2 dS ds dm
    · rintro k (hk | hk)
      · exact Or.inl hk
      · rcases k3 k hk with h1 | h1
        · exact Or.inl (hGF k h1)
        · rw [size_setCell]; exact Or.inr h1
  have HSt := hid (settle_after HE.out hb.out hI hT.out hN.out)
  clear k1 k2 k3 hcn HE hb hT hN hs h HC HG
  cases hho : (x.rd.read b).headOver
  all_goals
    rw [hho] at HSt
    unfold readingV at *
    go_wp2_with fail
    refine HSt.out.mono ?_
    rintro e w2 ⟨rfl, hx2⟩
    have HX2 := hid hx2
    clear hx2 HSt
    go_wp2
    exact bodyPost_end (v := .tuple #[]) (by simp [results, Tryz.results69, go_sem]) rfl ⟨rfl, HX2.out⟩

end Go.Proofs.YtiiapfkcmdkkoaaGreatDoor

/-
  Server.read, walked: the request is over.
-/
namespace Go.Proofs.YtiiapfkcmdkkoaaGreatDoor
open Go.RowKit Go.MapKept

/-- A call of a function of one argument, as one step of a region that draws. -/
theorem step_call1 {ops : Array Oper} {o : Oper} {a : Act} {w : World} {K : Act → World → Prop} {Q : Exit → Act → World → Prop} {E : Prop} {f : Nat} {v : Value} {ts : Array TypeId} (R : Value → World → Prop)
    (hg : o.guard = none) (x : Operand) (hop : o.op = Op.call { callee := Callee.value (.func f), args := #[x], argTypes := ts }) (hent : Ent f) (hx : a.eval x = v)
    (hc : Calls Tryz.prog f #[v] w fun e w' => ∃ r, e = .returned r ∧ R r w') (hK : ∀ r w', R r w' → K (a.put o.dst r) w') :
    if Region.wanted o (yielded ops a.tmps) = true then Oper.wp Tryz.prog o a w K Q else E := by
  have hw : Region.wanted o (yielded ops a.tmps) = true := by simp [Region.wanted, hg]
  rw [if_pos hw]
  have hrun : (execOp a.eval o).run Tryz.prog w = .ok (.enter f #[v]) w := by
    have hf : a.eval (.func f) = .func (.func f) #[] #[] := rfl
    have he := hent #[v] w
    simp [execOp, hop, resolve, invoke, hf, hx, Deferred.ofValue, he]
  unfold Oper.wp
  rw [hrun, Oper.upon_enter]
  refine hc.mono ?_
  rintro e w' ⟨r, rfl, hR⟩
  exact hK r w' hR

end Go.Proofs.YtiiapfkcmdkkoaaGreatDoor
