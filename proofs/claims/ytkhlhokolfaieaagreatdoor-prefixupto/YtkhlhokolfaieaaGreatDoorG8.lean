import Derived.Test.YtkhlhokolfaieaaGreatDoorG7
import Derived.Deep.LoopGhost
/-
  A server of one connection in memory; Data, where every byte is read at once.
-/
namespace Go.Proofs.YtkhlhokolfaieaaGreatDoor
open Go.RowKit Go.MapKept

def ptrV (c : Nat) : Value := .pointer (some ⟨c, 0, none⟩)
theorem int_key (a : Int) : IsKey (.int .i64) (.int .i64 a) := by simp [IsKey]
theorem int_inj (a b : Int) (h : Value.int .i64 a = Value.int .i64 b) : a = b := by injection h
theorem Tryz.und46 : Tryz.prog.underlying 46 = some (.map 3 51) := by kernel_rfl
theorem Tryz.und3' : Tryz.prog.underlying 3 = some (.int .i64) := by kernel_rfl
theorem zero_conn (w : World) : (zeroValue 51).run Tryz.prog w = .ok (.pointer none) w := by kernel_rfl

/-- The map of the connections. -/
def Cm (w : World) (cm : Nat) (M : List (Int × Nat)) : Prop := ∃ es clock, w.heap[cm]? = some (.map es clock) ∧ Ents (Value.int .i64) ptrV es M
theorem Cm.keep {M : Nat → Prop} {w w' : World} {cm : Nat} {K : List (Int × Nat)} (h : Cm w cm K) (hu : Upd M w w') (h1 : ¬ M cm) : Cm w' cm K := by
  obtain ⟨es, clock, h3, h4⟩ := h
  exact ⟨es, clock, hu.keep h3 h1, h4⟩
theorem Cm.lt {w : World} {cm : Nat} {K : List (Int × Nat)} (h : Cm w cm K) : cm < w.heap.size := by
  obtain ⟨es, clock, h3, h4⟩ := h
  exact lt_of_heap h3
theorem Cm.look {w : World} {cm : Nat} {K : List (Int × Nat)} (h : Cm w cm K) (id : Int) : (Instr.lookup 46 (.map (some cm)) (.int .i64 id) true).run Tryz.prog w = .ok (.tuple #[((aget K id).map ptrV).getD (.pointer none), .bool (aget K id).isSome]) w := by
  obtain ⟨es, clock, h3, h4⟩ := h
  exact run_lookup_ents (P := Tryz.prog) (w := w) Tryz.und46 Tryz.und3' int_key int_inj (zero_conn w) h3 h4 id

/-- A server of one connection. -/
structure Xs where
  cx : CX
  L : Texts
  u : Int
  op : Bool

def Xs.read (x : Xs) (b : UInt8) : Xs := { x with cx := x.cx.next x.L x.u false b, L := x.cx.nextL x.L x.u b, u := x.cx.nextU x.L x.u b }
def Xs.reads (x : Xs) (l : List UInt8) : Xs := l.foldl Xs.read x

/-- Where it lies. -/
structure Ps where
  s : Nat
  m : Nat
  cm : Nat
  c : Nat

structure Sv (N : Nat) (F Fc : Nat → Prop) (w : World) (S : Nat) (p : Ps) (dv uv ov : Value) (x : Xs) : Prop where
  srv : SrvT w S p.s p.m p.cm 1 false x.L x.u
  cms : Cm w p.cm (if x.op then [(0, p.c)] else [])
  cn : Cn Fc w p.c x.cx dv uv ov
  sub : ∀ k, Fc k → F k
  own : F S ∧ F p.s ∧ F p.m ∧ F p.cm
  off : ¬ Fc S ∧ ¬ Fc p.s ∧ ¬ Fc p.m ∧ ¬ Fc p.cm
  ne : p.cm ≠ p.m
  low : ∀ k, F k → N ≤ k ∧ k < w.heap.size
  tb : Tb N w
  ci : CInv x.cx
  ti : TInv x.L x.u

theorem Sv.nes {N : Nat} {F Fc : Nat → Prop} {w : World} {S : Nat} {p : Ps} {dv uv ov : Value} {x : Xs} (h : Sv N F Fc w S p dv uv ov x) : p.cm ≠ p.s ∧ p.cm ≠ S ∧ p.c ≠ p.cm := by
  obtain ⟨es, clock, h3, h4⟩ := h.cms
  refine ⟨?_, ?_, ?_⟩
  · intro e; rw [e, h.srv.sto.blk] at h3; simp at h3
  · intro e; rw [e, h.srv.blk] at h3; simp at h3
  · intro e; rw [← e, h.cn.blk] at h3; simp at h3

/-- A call leaves the server so. -/
def SvX (N : Nat) (F : Nat → Prop) (w w' : World) (S : Nat) (p : Ps) (x : Xs) : Prop := ∃ F' Fc' dv uv ov, Sv N F' Fc' w' S p dv uv ov x ∧ Upd F w w' ∧ ∀ k, F' k → F k ∨ (w.heap.size ≤ k ∧ k < w'.heap.size)

theorem SvX.trans {N : Nat} {F F1 : Nat → Prop} {w w1 w2 : World} {S : Nat} {p : Ps} {x : Xs} (hu : Upd F w w1) (hf : ∀ k, F1 k → F k ∨ (w.heap.size ≤ k ∧ k < w1.heap.size)) (h : SvX N F1 w1 w2 S p x) : SvX N F w w2 S p x := by
  obtain ⟨F2, Fc2, dv, uv, ov, h1, h2, h3⟩ := h
  refine ⟨F2, Fc2, dv, uv, ov, h1, ⟨h2.os.trans hu.os, h2.tape.trans hu.tape, h2.output.trans hu.output, Nat.le_trans hu.size h2.size, fun k hk hn => (h2.block k (Nat.lt_of_lt_of_le hk hu.size) (fun e => ?_)).trans (hu.block k hk hn)⟩, fun k hk => ?_⟩
  · rcases hf k e with h4 | h4
    · exact hn h4
    · omega
  · rcases h3 k hk with h4 | h4
    · rcases hf k h4 with h5 | h5
      · exact Or.inl h5
      · right; have := h2.size; omega
    · right; have := hu.size; omega

theorem Sv.keep {N : Nat} {F Fc M : Nat → Prop} {w w' : World} {S : Nat} {p : Ps} {dv uv ov : Value} {x : Xs} (h : Sv N F Fc w S p dv uv ov x) (hu : Upd M w w') (hd : ∀ k, F k → ¬ M k) (hM : ∀ k, M k → N ≤ k) (hN : N ≤ w.heap.size) : Sv N F Fc w' S p dv uv ov x := {
  srv := h.srv.keep hu (hd _ h.own.1) (hd _ h.own.2.1) (hd _ h.own.2.2.1)
  cms := h.cms.keep hu (hd _ h.own.2.2.2)
  cn := h.cn.keep hu (fun k hk => hd k (h.sub k hk))
  sub := h.sub
  own := h.own
  off := h.off
  ne := h.ne
  low := fun k hk => ⟨(h.low k hk).1, Nat.lt_of_lt_of_le (h.low k hk).2 hu.size⟩
  tb := h.tb.keep (hu.below hN (fun k hk e => by have := hM k e; omega))
  ci := h.ci
  ti := h.ti }

/-- The connection alone has changed. -/
theorem Sv.conn {N : Nat} {F Fc : Nat → Prop} {w w' : World} {S : Nat} {p : Ps} {dv uv ov : Value} {x : Xs} {cx : CX} (h : Sv N F Fc w S p dv uv ov x) (hc : ConnX Fc w w' p.c cx) (hi : CInv cx) : SvX N F w w' S p { x with cx := cx } := by
  obtain ⟨Fc', dv', uv', ov', h1, h2, h3⟩ := hc
  have hsz := h2.size
  have hS := h.low S h.own.1
  have hoff : ∀ k, k < w.heap.size → ¬ Fc k → ¬ Fc' k := fun k hk hn e => by
    rcases h3 k e with h4 | h4
    · exact hn h4
    · omega
  refine ⟨fun k => F k ∨ (w.heap.size ≤ k ∧ k < w'.heap.size), Fc', dv', uv', ov', ⟨?_, ?_, h1, ?_, ?_, ?_, h.ne, ?_, ?_, hi, h.ti⟩, h2.mono (fun k _ e => h.sub k e), fun k hk => hk⟩
  · exact h.srv.keep h2 h.off.1 h.off.2.1 h.off.2.2.1
  · exact h.cms.keep h2 h.off.2.2.2
  · intro k hk
    rcases h3 k hk with h4 | h4
    · exact Or.inl (h.sub k h4)
    · exact Or.inr h4
  · exact ⟨Or.inl h.own.1, Or.inl h.own.2.1, Or.inl h.own.2.2.1, Or.inl h.own.2.2.2⟩
  · exact ⟨hoff _ hS.2 h.off.1, hoff _ (h.low _ h.own.2.1).2 h.off.2.1, hoff _ (h.low _ h.own.2.2.1).2 h.off.2.2.1, hoff _ (h.low _ h.own.2.2.2).2 h.off.2.2.2⟩
  · rintro k (hk | hk)
    · have := h.low k hk; omega
    · omega
  · exact h.tb.keep (h2.below (by omega) (fun k hk e => by have := h.low k (h.sub k e); omega))

/-- A byte was read. -/
theorem Sv.readX {N : Nat} {F Fc : Nat → Prop} {w w' : World} {S : Nat} {p : Ps} {dv uv ov : Value} {x : Xs} {b : UInt8} (h : Sv N F Fc w S p dv uv ov x) (hr : ReadX Fc w w' p.c S p.s p.m p.cm 1 false (x.cx.next x.L x.u false b) (x.cx.nextL x.L x.u b) (x.cx.nextU x.L x.u b)) : SvX N F w w' S p (x.read b) := by
  obtain ⟨Fc', dv', uv', ov', h1, hs, h2, h3⟩ := hr
  have hsz := h2.size
  have hS := h.low S h.own.1
  have hoff : ∀ k, k < w.heap.size → ¬ Fc k → ¬ Fc' k := fun k hk hn e => by
    rcases h3 k e with h4 | h4
    · exact hn h4
    · omega
  have hMF : ∀ k, (Fc k ∨ k = p.s ∨ k = p.m) → F k := by
    rintro k (h4 | rfl | rfl)
    · exact h.sub k h4
    · exact h.own.2.1
    · exact h.own.2.2.1
  refine ⟨fun k => F k ∨ (w.heap.size ≤ k ∧ k < w'.heap.size), Fc', dv', uv', ov', ⟨hs, ?_, h1, ?_, ?_, ?_, h.ne, ?_, ?_, h.ci.next _ _ _ _, h.ci.nextT h.ti b⟩, h2.mono (fun k _ e => hMF k e), fun k hk => hk⟩
  · exact h.cms.keep h2 (by rintro (e | e | e); exact h.off.2.2.2 e; exact h.nes.1 e; exact h.ne e)
  · intro k hk
    rcases h3 k hk with h4 | h4
    · exact Or.inl (h.sub k h4)
    · exact Or.inr h4
  · exact ⟨Or.inl h.own.1, Or.inl h.own.2.1, Or.inl h.own.2.2.1, Or.inl h.own.2.2.2⟩
  · exact ⟨hoff _ hS.2 h.off.1, hoff _ (h.low _ h.own.2.1).2 h.off.2.1, hoff _ (h.low _ h.own.2.2.1).2 h.off.2.2.1, hoff _ (h.low _ h.own.2.2.2).2 h.off.2.2.2⟩
  · rintro k (hk | hk)
    · have := h.low k hk; omega
    · omega
  · exact h.tb.keep (h2.below (by omega) (fun k hk e => by have := h.low k (hMF k e); omega))

/-- Server.read, of the server as a whole. -/
theorem svread_any {N : Nat} {F Fc : Nat → Prop} {w : World} {S : Nat} {p : Ps} {dv uv ov : Value} {x : Xs} (h : Hid (Sv N F Fc w S p dv uv ov x)) (hk : x.cx.kind ≠ 2) (hout : x.cx.out.length ≤ 100000) (b : UInt8) :
    Calls Tryz.prog 32 #[.pointer (some ⟨S, 0, none⟩), .pointer (some ⟨p.c, 0, none⟩), .int .u8 b.toNat] w fun e w' => e = .returned (.tuple #[]) ∧ SvX N F w w' S p (x.read b) := by
  have hS := h.out.low S h.out.own.1
  refine (sread_any (N := N) (hid h.out.cn) (hid h.out.srv) h.out.off.1 h.out.off.2.1 h.out.off.2.2.1 (hid h.out.ci) (hid h.out.ti) hk b hout (hid h.out.tb) (hid ⟨fun k hk => (h.out.low k (h.out.sub k hk)).1, (h.out.low _ h.out.own.2.1).1, (h.out.low _ h.out.own.2.2.1).1, by omega⟩)).mono ?_
  rintro e w' ⟨rfl, hr⟩
  exact ⟨rfl, h.out.readX hr⟩

end Go.Proofs.YtkhlhokolfaieaaGreatDoor
