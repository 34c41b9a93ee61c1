import Derived.Test.YtohoddhegkjehaaGreatDoorE2
import Derived.Deep.DeepCutAuto
/-
  Server.read, walked: the request is not over.
-/
namespace Go.Proofs.YtohoddhegkjehaaGreatDoor
open Go.RowKit Go.MapKept

/-- The world's table of powers stays, whatever lies from N on. -/
def Tb (N : Nat) (w : World) : Prop := ∀ w', Below N w w' → Tab w'
theorem Tb.keep {N : Nat} {w w' : World} (h : Tb N w) (hb : Below N w w') : Tb N w' := fun w'' hb' => h w'' (hb.trans hb')

def CX.next (x : CX) (L : Texts) (u : Int) (dr : Bool) (b : UInt8) : CX :=
  if (x.rd.read b).tag = 0 then { x with kind := if (replyAns L u dr (x.rd.read b).req).last then 2 else 0, out := x.out ++ (replyAns L u dr (x.rd.read b).req).bytes } else { x with kind := 1, σ := x.rd.read b }
def CX.nextL (x : CX) (L : Texts) (u : Int) (b : UInt8) : Texts := if (x.rd.read b).tag = 0 then replyL L u (x.rd.read b).req else L
def CX.nextU (x : CX) (L : Texts) (u : Int) (b : UInt8) : Int := if (x.rd.read b).tag = 0 then replyU L u (x.rd.read b).req else u

/-- The connection's own cells are written. -/
theorem Cn.blk' {F : Nat → Prop} {w : World} {c : Nat} {x : CX} {dv uv ov : Value} (h : Cn F w c x dv uv ov) : w.cell? ⟨c, 0, none⟩ = some dv ∧ w.cell? ⟨c, 1, none⟩ = some uv ∧ w.cell? ⟨c, 2, none⟩ = some ov ∧ w.frozen? ⟨c, 0, none⟩ = false ∧ w.frozen? ⟨c, 1, none⟩ = false ∧ w.frozen? ⟨c, 2, none⟩ = false :=
  ⟨cell_of_heap h.blk 0, cell_of_heap h.blk 1, cell_of_heap h.blk 2, unfrozen_of_heap h.blk 0, unfrozen_of_heap h.blk 1, unfrozen_of_heap h.blk 2⟩

/-- What reading a byte leaves. -/
def ReadX (F : Nat → Prop) (w w' : World) (c S s m cm made : Nat) (dr : Bool) (x' : CX) (L' : Texts) (u' : Int) : Prop :=
  ∃ F' dv' uv' ov', Cn F' w' c x' dv' uv' ov' ∧ SrvT w' S s m cm made dr L' u' ∧ Upd (fun k => F k ∨ k = s ∨ k = m) w w' ∧ (∀ k, F' k → F k ∨ (w.heap.size ≤ k ∧ k < w'.heap.size))

set_option maxHeartbeats 800000 in
set_option maxRecDepth 100000 in
theorem sread_more {F : Nat → Prop} {w : World} {c S s m cm made : Nat} {dr : Bool} {x : CX} {dv uv ov : Value} {L : Texts} {u : Int} (h : Hid (Cn F w c x dv uv ov)) (hs : Hid (SrvT w S s m cm made dr L u)) (dS : ¬ F S) (ds : ¬ F s) (dm : ¬ F m)
    (hk : x.kind ≠ 2) (hct : x.σ.count ≤ 1000000000) (b : UInt8) (g2 : Hid (Good (x.rd.read b))) (ht : (x.rd.read b).tag ≠ 0) :
    Calls Tryz.prog 45 #[.pointer (some ⟨S, 0, none⟩), .pointer (some ⟨c, 0, none⟩), .int .u8 b.toNat] w fun e w' => e = .returned (.tuple #[]) ∧ ReadX F w w' c S s m cm made dr (x.next L u dr b) (x.nextL L u b) (x.nextU L u b) := by
  have HX : Hid (x.next L u dr b = { x with kind := 1, σ := x.rd.read b } ∧ x.nextL L u b = L ∧ x.nextU L u b = u) := by
    show _ ∧ _ ∧ _
    unfold CX.next CX.nextL CX.nextU; rw [if_neg ht, if_neg ht, if_neg ht]; exact ⟨rfl, rfl, rfl⟩
  rw [HX.out.1, HX.out.2.1, HX.out.2.2]
  obtain ⟨ty, rv, f, G, rfl, hm, hent, hG, hcall⟩ := doing_calls h.out hk hct b g2.out
  obtain ⟨c0, c1, c2, f0, f1, f2⟩ := h.out.blk'
  have hcl := lt_of_heap h.out.blk
  have HG := hid hG
  have HC := hid hcall
  have HT := hid ht
  clear hG hcall HX ht
  go_enter Tryz.func45, Tryz.ntmps45
  go_wp2_with fail
  refine HC.out.mono ?_
  rintro e w1 ⟨r, F1, k1, k2, k3, k4⟩
  obtain rfl : e = .returned (.tuple #[readingV r, .pointer none]) := by
    rcases k4 with ⟨_, h⟩ | ⟨k5, _⟩
    · exact h
    · exact absurd k5 HT.out
  clear k4
  have hcn : ¬ G c := fun e => (HG.out c e).2.1 rfl
  have d0 : w1.cell? ⟨c, 0, none⟩ = some (.iface ty rv) := (k2.cell hcl hcn).trans c0
  have g0 : w1.frozen? ⟨c, 0, none⟩ = false := (k2.frozen hcl hcn).trans f0
  have HE : Hid (ReadX F w (w1.setCell ⟨c, 0, none⟩ (readingV r)) c S s m cm made dr { x with kind := 1, σ := x.rd.read b } L u) := by
    have hGF : ∀ k, G k → F k := fun k hk => (HG.out k hk).1
    have U1 : Upd F w w1 := k2.mono (fun k _ hk => hGF k hk)
    have UO := Upd.one w1 c 0 (readingV r)
    have U2 : Upd F w (w1.setCell ⟨c, 0, none⟩ (readingV r)) := U1.trans (UO.mono (by rintro k _ rfl; exact h.out.fc))
    have hb1 : w1.heap[c]? = some (.cells #[.iface ty rv, uv, ov] 63 (0, 0)) := k2.keep h.out.blk hcn
    have ru1 : Row w1 uv x.unread := h.out.ru.keep k2 (fun k hk e => (HG.out k e).2.2.1 hk)
    have ro1 : Row w1 ov x.out := h.out.ro.keep k2 (fun k hk e => (HG.out k e).2.2.2 hk)
    have hF1c : ∀ k, F1 k → k ≠ c ∧ uv.ownBlock ≠ some k ∧ ov.ownBlock ≠ some k := by
      intro k hk
      rcases k3 k hk with h1 | h1
      · exact (HG.out k h1).2
      · exact ⟨by omega, fun e => by have := h.out.lt k (h.out.fu k e); omega, fun e => by have := h.out.lt k (h.out.fo k e); omega⟩
    have hlt1 := k1.lt
    refine ⟨fun k => F k ∨ F1 k, readingV r, uv, ov, ⟨?_, ru1.keep UO (by rintro k hk rfl; exact ru1.far hb1 (by decide) hk), ro1.keep UO (by rintro k hk rfl; exact ro1.far hb1 (by decide) hk), h.out.sep, Or.inl h.out.fc, fun k hk => Or.inl (h.out.fu k hk), fun k hk => Or.inl (h.out.fo k hk), ?_, ?_⟩, ?_, U2.mono (fun k _ h => Or.inl h), ?_⟩
    · have := heap_setCell hb1 0 (readingV r)
      simpa using this
    · rintro k (hk | hk)
      · rw [size_setCell]; exact Nat.lt_of_lt_of_le (h.out.lt k hk) k2.size
      · rw [size_setCell]; exact hlt1 k hk
    · exact Or.inr (Or.inl ⟨rfl, HT.out, g2.out, r, F1, rfl, k1.keep UO (fun k hk e => (hF1c k hk).1 e), fun k hk => ⟨Or.inr hk, hF1c k hk⟩⟩)
    · exact hs.out.keep U2 dS ds dm
    · rintro k (hk | hk)
      · exact Or.inl hk
      · rcases k3 k hk with h1 | h1
        · exact Or.inl (hGF k h1)
        · rw [size_setCell]; exact Or.inr h1
  clear k1 k2 k3 hcn
  unfold readingV at *
  go_wp2
  exact bodyPost_end (v := .tuple #[]) (by simp [results, Tryz.results45, go_sem]) rfl ⟨rfl, HE.out⟩

end Go.Proofs.YtohoddhegkjehaaGreatDoor

/-
  Server.read, walked: the request is over.
-/
namespace Go.Proofs.YtohoddhegkjehaaGreatDoor
open Go.RowKit Go.MapKept

/-- A call of a function of one argument, as one step of a region that draws. -/
theorem step_call1 {ops : Array Oper} {o : Oper} {a : Act} {w : World} {K : Act → World → Prop} {Q : Exit → Act → World → Prop} {E : Prop} {f : Nat} {v : Value} {ts : Array TypeId} (R : Value → World → Prop)
    (hg : o.guard = none) (x : Operand) (hop : o.op = Op.call { callee := Callee.value (.func f), args := #[x], argTypes := ts }) (hent : Ent f) (hx : a.eval x = v)
    (hc : Calls Tryz.prog f #[v] w fun e w' => ∃ r, e = .returned r ∧ R r w') (hK : ∀ r w', R r w' → K (a.put o.dst r) w') :
    if Region.wanted o (yielded ops a.tmps) = true then Oper.wp Tryz.prog o a w K Q else E := by
  have hw : Region.wanted o (yielded ops a.tmps) = true := by simp [Region.wanted, hg]
  rw [if_pos hw]
  have hrun : (execOp a.eval o).run Tryz.prog w = .ok (.enter f #[v]) w := by
    have hf : a.eval (.func f) = .func (.func f) #[] #[] := rfl
    have he := hent #[v] w
    simp [execOp, hop, resolve, invoke, hf, hx, Deferred.ofValue, he]
  unfold Oper.wp
  rw [hrun, Oper.upon_enter]
  refine hc.mono ?_
  rintro e w' ⟨r, rfl, hR⟩
  exact hK r w' hR

end Go.Proofs.YtohoddhegkjehaaGreatDoor
