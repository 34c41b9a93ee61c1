import Derived.Test.YtiiapfkcmdkkoaaGreatDoorQ01
import Derived.Test.YtiiapfkcmdkkoaaGreatDoorQ00
import Derived.Deep.QuietTactic
import Derived.BigQuiet
import Derived.BigRegion
/-
  Package request: what makes states (state.go: piece, exactly; fail), with the worlds written out.
-/
namespace Go.Proofs.YtiiapfkcmdkkoaaGreatDoor
open Go.RowKit

/-- The closure that 'piece' makes, its eight variables in the blocks from B on. -/
def cloV (B : Nat) : Value := .func (.func 177) #[] #[.pointer (some ⟨B + 4, 0, none⟩), .pointer (some ⟨B + 5, 0, none⟩), .pointer (some ⟨B + 1, 0, none⟩), .pointer (some ⟨B + 7, 0, none⟩), .pointer (some ⟨B, 0, none⟩), .pointer (some ⟨B + 2, 0, none⟩), .pointer (some ⟨B + 6, 0, none⟩), .pointer (some ⟨B + 3, 0, none⟩)]

/-- The world behind 'piece'. -/
def pieceW (w : World) (rv : Value) (least most : Int) (has keep : Value) (ending : ByteArray) (nextv : Value) : World :=
  (((((((w.alloc (.cells #[rv] 139)).alloc (.cells #[.int .i64 least, .int .i64 most, has, keep] 238)).alloc (.cells #[.string ending] 9)).alloc (.cells #[nextv] 233)).alloc (.cells #[.int .i64 0] 3)).alloc (.cells #[.int .i64 0] 3)).alloc (.cells #[.int .i64 0] 3)).alloc (.cells #[cloV w.heap.size] 227)

set_option maxHeartbeats 400000 in
theorem fail_any (r : Nat) (f : Int) (w : World) (v : Value) (h3 : w.cell? ⟨r, 3, none⟩ = some v) (f3 : w.frozen? ⟨r, 3, none⟩ = false) :
    Calls Tryz.prog 176 #[.pointer (some ⟨r, 0, none⟩), .int .i64 f] w fun e w' => e = .returned .nilFunc ∧ w' = w.setCell ⟨r, 3, none⟩ (.int .i64 f) := by
  go_enter Tryz.func176, Tryz.ntmps176
  go_wp2
  go_ret
  exact ⟨rfl, rfl⟩

set_option maxHeartbeats 400000 in
theorem piece_any (r : Nat) (least most : Int) (hf : Nat) (ko : Addr) (ending : ByteArray) (nf : Fn) (nfirst : Array Value) (w : World) :
    Calls Tryz.prog 173 #[.pointer (some ⟨r, 0, none⟩), .agg #[.int .i64 least, .int .i64 most, .func (.func hf) #[] #[], .pointer (some ko)], .string ending, .func nf nfirst #[]] w fun e w' => e = .returned (cloV w.heap.size) ∧ w' = pieceW w (.pointer (some ⟨r, 0, none⟩)) least most (.func (.func hf) #[] #[]) (.pointer (some ko)) ending (.func nf nfirst #[]) := by
  have hmf : ∀ (fn : Fn) (first cap : Array Value) (w : World), (Instr.makeFunc fn first cap).run Tryz.prog w = .ok (.func fn first cap) w := fun _ _ _ _ => rfl
  go_enter Tryz.func173, Tryz.ntmps173
  go_wp2
  go_ret
  exact ⟨rfl, rfl⟩

set_option maxHeartbeats 400000 in
theorem piece_bare (r : Nat) (ending : ByteArray) (nf : Fn) (nfirst : Array Value) (w : World) :
    Calls Tryz.prog 173 #[.pointer (some ⟨r, 0, none⟩), .agg #[.int .i64 0, .int .i64 0, .nilFunc, .pointer none], .string ending, .func nf nfirst #[]] w fun e w' => e = .returned (cloV w.heap.size) ∧ w' = pieceW w (.pointer (some ⟨r, 0, none⟩)) 0 0 .nilFunc (.pointer none) ending (.func nf nfirst #[]) := by
  have hmf : ∀ (fn : Fn) (first cap : Array Value) (w : World), (Instr.makeFunc fn first cap).run Tryz.prog w = .ok (.func fn first cap) w := fun _ _ _ _ => rfl
  go_enter Tryz.func173, Tryz.ntmps173
  go_wp2
  go_ret
  exact ⟨rfl, rfl⟩

set_option maxHeartbeats 400000 in
theorem exactly_any (r : Nat) (ending : ByteArray) (nf : Fn) (nfirst : Array Value) (w : World) :
    Calls Tryz.prog 182 #[.pointer (some ⟨r, 0, none⟩), .string ending, .func nf nfirst #[]] w fun e w' => e = .returned (cloV w.heap.size) ∧ w' = pieceW w (.pointer (some ⟨r, 0, none⟩)) 0 0 .nilFunc (.pointer none) ending (.func nf nfirst #[]) := by
  go_enter Tryz.func182, Tryz.ntmps182
  go_wp2_with (go_at_call 173; refine (piece_bare _ _ _ _ _).mono ?_; rintro e w' ⟨rfl, rfl⟩)
  go_ret
  exact ⟨rfl, rfl⟩

set_option maxHeartbeats 400000 in
theorem readMethod_any (r : Nat) (w : World) :
    Calls Tryz.prog 169 #[.pointer (some ⟨r, 0, none⟩)] w fun e w' => e = .returned (cloV w.heap.size) ∧ w' = pieceW w (.pointer (some ⟨r, 0, none⟩)) 1 8 (.func (.func 174) #[] #[]) (.pointer (some ⟨r, 4, none⟩)) ⟨#[32, 47]⟩ (.func (.func 175) #[.pointer (some ⟨r, 0, none⟩)] #[]) := by
  have hmf : ∀ (fn : Fn) (first cap : Array Value) (w : World), (Instr.makeFunc fn first cap).run Tryz.prog w = .ok (.func fn first cap) w := fun _ _ _ _ => rfl
  go_enter Tryz.func169, Tryz.ntmps169
  go_wp2_with (go_at_call 173; refine (piece_any _ _ _ _ _ _ _ _ _).mono ?_; rintro e w' ⟨rfl, rfl⟩)
  go_ret
  exact ⟨rfl, rfl⟩

set_option maxHeartbeats 400000 in
theorem readPath_any (r : Nat) (w : World) :
    Calls Tryz.prog 175 #[.pointer (some ⟨r, 0, none⟩)] w fun e w' => e = .returned (cloV w.heap.size) ∧ w' = pieceW w (.pointer (some ⟨r, 0, none⟩)) 0 30 (.func (.func 178) #[] #[]) (.pointer (some ⟨r, 5, none⟩)) ⟨#[32, 72, 84, 84, 80, 47, 49, 46, 49, 13, 10]⟩ (.func (.func 179) #[.pointer (some ⟨r, 0, none⟩)] #[]) := by
  have hmf : ∀ (fn : Fn) (first cap : Array Value) (w : World), (Instr.makeFunc fn first cap).run Tryz.prog w = .ok (.func fn first cap) w := fun _ _ _ _ => rfl
  go_enter Tryz.func175, Tryz.ntmps175
  go_wp2_with (go_at_call 173; refine (piece_any _ _ _ _ _ _ _ _ _).mono ?_; rintro e w' ⟨rfl, rfl⟩)
  go_ret
  exact ⟨rfl, rfl⟩

set_option maxHeartbeats 400000 in
theorem readValue_any (r : Nat) (w : World) :
    Calls Tryz.prog 188 #[.pointer (some ⟨r, 0, none⟩)] w fun e w' => e = .returned (cloV w.heap.size) ∧ w' = pieceW w (.pointer (some ⟨r, 0, none⟩)) 0 200 (.func (.func 191) #[] #[]) (.pointer (some ⟨r, 7, none⟩)) ⟨#[13, 10]⟩ (.func (.func 192) #[.pointer (some ⟨r, 0, none⟩)] #[]) := by
  have hmf : ∀ (fn : Fn) (first cap : Array Value) (w : World), (Instr.makeFunc fn first cap).run Tryz.prog w = .ok (.func fn first cap) w := fun _ _ _ _ => rfl
  go_enter Tryz.func188, Tryz.ntmps188
  go_wp2_with (go_at_call 173; refine (piece_any _ _ _ _ _ _ _ _ _).mono ?_; rintro e w' ⟨rfl, rfl⟩)
  go_ret
  exact ⟨rfl, rfl⟩

set_option maxHeartbeats 400000 in
theorem readFields_any (r : Nat) (w : World) :
    Calls Tryz.prog 179 #[.pointer (some ⟨r, 0, none⟩)] w fun e w' => e = .returned (.func (.func 181) #[] #[.pointer (some ⟨w.heap.size, 0, none⟩)]) ∧ w' = w.alloc (.cells #[.pointer (some ⟨r, 0, none⟩)] 139) := by
  have hmf : ∀ (fn : Fn) (first cap : Array Value) (w : World), (Instr.makeFunc fn first cap).run Tryz.prog w = .ok (.func fn first cap) w := fun _ _ _ _ => rfl
  go_enter Tryz.func179, Tryz.ntmps179
  go_wp2
  go_ret
  exact ⟨rfl, rfl⟩

set_option maxHeartbeats 400000 in
theorem over_any (w : World) : Calls Tryz.prog 201 #[] w fun e w' => e = .returned .nilFunc ∧ w' = w := by
  go_enter Tryz.func201, Tryz.ntmps201
  go_wp2
  go_ret
  exact ⟨rfl, rfl⟩

set_option maxHeartbeats 400000 in
theorem readName_any (r : Nat) (w : World) (v6 v7 : Value) (h6 : w.cell? ⟨r, 6, none⟩ = some v6) (f6 : w.frozen? ⟨r, 6, none⟩ = false) (h7 : w.cell? ⟨r, 7, none⟩ = some v7) (f7 : w.frozen? ⟨r, 7, none⟩ = false) :
    Calls Tryz.prog 184 #[.pointer (some ⟨r, 0, none⟩)] w fun e w' => e = .returned (cloV w.heap.size) ∧ w' = pieceW ((w.setCell ⟨r, 6, none⟩ (.slice none 0 0)).setCell ⟨r, 7, none⟩ (.slice none 0 0)) (.pointer (some ⟨r, 0, none⟩)) 1 20 (.func (.func 180) #[] #[]) (.pointer (some ⟨r, 6, none⟩)) ⟨#[58]⟩ (.func (.func 188) #[.pointer (some ⟨r, 0, none⟩)] #[]) := by
  have hmf : ∀ (fn : Fn) (first cap : Array Value) (w : World), (Instr.makeFunc fn first cap).run Tryz.prog w = .ok (.func fn first cap) w := fun _ _ _ _ => rfl
  go_enter Tryz.func184, Tryz.ntmps184
  go_wp2_with (go_at_call 173; refine (piece_any _ _ _ _ _ _ _ _ _).mono ?_; rintro e w' ⟨rfl, rfl⟩)
  go_ret
  exact ⟨by simp, rfl⟩

set_option maxHeartbeats 400000 in
theorem readChunk_any (r : Nat) (w : World) (v : Value) (h : w.cell? ⟨r, 11, none⟩ = some v) (f : w.frozen? ⟨r, 11, none⟩ = false) :
    Calls Tryz.prog 189 #[.pointer (some ⟨r, 0, none⟩)] w fun e w' => e = .returned (cloV w.heap.size) ∧ w' = pieceW (w.setCell ⟨r, 11, none⟩ (.slice none 0 0)) (.pointer (some ⟨r, 0, none⟩)) 1 4 (.func (.func 193) #[] #[]) (.pointer (some ⟨r, 11, none⟩)) ⟨#[13, 10]⟩ (.func (.func 194) #[.pointer (some ⟨r, 0, none⟩)] #[]) := by
  have hmf : ∀ (fn : Fn) (first cap : Array Value) (w : World), (Instr.makeFunc fn first cap).run Tryz.prog w = .ok (.func fn first cap) w := fun _ _ _ _ => rfl
  go_enter Tryz.func189, Tryz.ntmps189
  go_wp2_with (go_at_call 173; refine (piece_any _ _ _ _ _ _ _ _ _).mono ?_; rintro e w' ⟨rfl, rfl⟩)
  go_ret
  exact ⟨by simp, rfl⟩

end Go.Proofs.YtiiapfkcmdkkoaaGreatDoor

/-
  The closure that 'piece' makes (state.go): its ways.
-/
namespace Go.Proofs.YtiiapfkcmdkkoaaGreatDoor
open Go.RowKit

theorem Tryz.info5 : (Tryz.prog.info? 5).map (fun i => (i.zero, i.size, i.bytes)) = some (some (.int .u8 0), 1, 1) := by kernel_rfl
theorem Tryz.und70 : Tryz.prog.underlying 70 = some (.slice 5) := by kernel_rfl

/-- append onto a row of our own, as one step of a region that draws. -/
theorem step_append_row {ops : Array Oper} {o : Oper} {a : Act} {w : World} {K : Act → World → Prop} {Q : Exit → Act → World → Prop} {E : Prop}
    (hg : o.guard = none) (s x : Operand) (hop : o.op = Op.call { callee := Callee.builtin Builtin.append, args := #[s, x], argTypes := #[70, 70] })
    (v : Value) (bs : List UInt8) (hs : a.eval s = v) (hown : Row w v bs) (ad : Addr) (m c : Nat) (news : List UInt8) (hx : a.eval x = .slice (some ad) m c) (hl : news.length = m) (hnews : ∀ j u, (news.map byteV)[j]? = some u → w.cell? (ad.add j) = some u) (hb : bs.length + m ≤ 140737488355328)
    (hK : ∀ v' w', Row w' v' (bs ++ news) → w.grownBy w' v.ownBlock → (∀ k, v'.ownBlock = some k → v.ownBlock = some k ∨ w.heap.size ≤ k) → (v' = .slice none 0 0 ↔ v = .slice none 0 0 ∧ m = 0) → K (a.put o.dst v') w') :
    if Region.wanted o (yielded ops a.tmps) = true then Oper.wp Tryz.prog o a w K Q else E := by
  have hw : Region.wanted o (yielded ops a.tmps) = true := by simp [Region.wanted, hg]
  rw [if_pos hw]
  obtain ⟨i0, hi, hz0, hz1, hz2⟩ := info_parts Tryz.info5
  obtain ⟨v', w', hrun, r1, r2, r3, r4⟩ := run_append_row (P := Tryz.prog) w 70 o.type i0 Tryz.und70 hi hz0 hz1 hz2 v bs hown ad m c news hl hnews hb
  unfold Oper.wp
  simp [execOp, hop, resolve, invoke, builtin, hs, hx, hrun, Result.andThen]
  exact hK v' w' r1 r2 r3 r4

/-- The closure's variables: 'met' signs of the ending are met. -/
structure Clo (w : World) (B r : Nat) (at_ kept met least most : Int) (has keep : Value) (ending : ByteArray) (nextv : Value) : Prop where
  b0 : w.heap[B]? = some (.cells #[.pointer (some ⟨r, 0, none⟩)] 139 (0, 0))
  b1 : w.heap[B + 1]? = some (.cells #[.int .i64 least, .int .i64 most, has, keep] 238 (0, 0))
  b2 : w.heap[B + 2]? = some (.cells #[.string ending] 9 (0, 0))
  b3 : w.heap[B + 3]? = some (.cells #[nextv] 233 (0, 0))
  b4 : w.heap[B + 4]? = some (.cells #[.int .i64 at_] 3 (0, 0))
  b5 : w.heap[B + 5]? = some (.cells #[.int .i64 kept] 3 (0, 0))
  b6 : w.heap[B + 6]? = some (.cells #[.int .i64 met] 3 (0, 0))
  b7 : w.heap[B + 7]? = some (.cells #[cloV B] 227 (0, 0))

theorem Clo.keep {M : Nat → Prop} {w w' : World} {B r : Nat} {at_ kept met least most : Int} {has keep : Value} {ending : ByteArray} {nextv : Value} (h : Clo w B r at_ kept met least most has keep ending nextv) (hu : Upd M w w') (hm : ∀ k, B ≤ k → k < B + 8 → ¬ M k) : Clo w' B r at_ kept met least most has keep ending nextv :=
  ⟨hu.keep h.b0 (hm _ (by omega) (by omega)), hu.keep h.b1 (hm _ (by omega) (by omega)), hu.keep h.b2 (hm _ (by omega) (by omega)), hu.keep h.b3 (hm _ (by omega) (by omega)), hu.keep h.b4 (hm _ (by omega) (by omega)), hu.keep h.b5 (hm _ (by omega) (by omega)), hu.keep h.b6 (hm _ (by omega) (by omega)), hu.keep h.b7 (hm _ (by omega) (by omega))⟩

/-- What the closure is called with. -/
abbrev cloArgs (b : Int) (B : Nat) : Array Value := #[.int .u8 b, .pointer (some ⟨B + 4, 0, none⟩), .pointer (some ⟨B + 5, 0, none⟩), .pointer (some ⟨B + 1, 0, none⟩), .pointer (some ⟨B + 7, 0, none⟩), .pointer (some ⟨B, 0, none⟩), .pointer (some ⟨B + 2, 0, none⟩), .pointer (some ⟨B + 6, 0, none⟩), .pointer (some ⟨B + 3, 0, none⟩)]


theorem Clo.cells {w : World} {B r : Nat} {at_ kept met least most : Int} {has keep : Value} {ending : ByteArray} {nextv : Value} (h : Clo w B r at_ kept met least most has keep ending nextv) :
    w.cell? ⟨B, 0, none⟩ = some (.pointer (some ⟨r, 0, none⟩)) ∧ w.cell? ⟨B + 1, 0, none⟩ = some (.int .i64 least) ∧ w.cell? ⟨B + 1, 1, none⟩ = some (.int .i64 most) ∧ w.cell? ⟨B + 1, 2, none⟩ = some has ∧ w.cell? ⟨B + 1, 3, none⟩ = some keep ∧
    w.cell? ⟨B + 2, 0, none⟩ = some (.string ending) ∧ w.cell? ⟨B + 3, 0, none⟩ = some nextv ∧ w.cell? ⟨B + 4, 0, none⟩ = some (.int .i64 at_) ∧ w.cell? ⟨B + 5, 0, none⟩ = some (.int .i64 kept) ∧ w.cell? ⟨B + 6, 0, none⟩ = some (.int .i64 met) ∧ w.cell? ⟨B + 7, 0, none⟩ = some (cloV B) ∧
    w.frozen? ⟨B + 4, 0, none⟩ = false ∧ w.frozen? ⟨B + 5, 0, none⟩ = false ∧ w.frozen? ⟨B + 6, 0, none⟩ = false :=
  ⟨cell_of_heap h.b0 0, cell_of_heap h.b1 0, cell_of_heap h.b1 1, cell_of_heap h.b1 2, cell_of_heap h.b1 3, cell_of_heap h.b2 0, cell_of_heap h.b3 0, cell_of_heap h.b4 0, cell_of_heap h.b5 0, cell_of_heap h.b6 0, cell_of_heap h.b7 0, unfrozen_of_heap h.b4 0, unfrozen_of_heap h.b5 0, unfrozen_of_heap h.b6 0⟩

/-- Within the ending: the byte is not the ending's: it is wrong. -/
theorem clo1_bad (w : World) (B r : Nat) (b kept least most : Int) (m : Nat) (has keep : Value) (ending : ByteArray) (nextv v3 : Value)
    (h : Clo w B r 1 kept m least most has keep ending nextv) (hlt : m < ending.size) (hne : b ≠ (ending[m]'hlt).toNat) (h3 : w.cell? ⟨r, 3, none⟩ = some v3) (f3 : w.frozen? ⟨r, 3, none⟩ = false) :
    Calls Tryz.prog 177 (cloArgs b B) w fun e w' => e = .returned .nilFunc ∧ w' = w.setCell ⟨r, 3, none⟩ (.int .i64 1) := by
  obtain ⟨c0, c10, c11, c12, c13, c2, c3, c4, c5, c6, c7, f4, f5, f6⟩ := h.cells
  clear h
  go_enter Tryz.func177, Tryz.ntmps177
  go_wp2_with (go_at_call 176; refine (fail_any _ _ _ v3 (by first | exact h3 | simpa using h3) (by first | exact f3 | simpa using f3)).mono ?_; rintro e w' ⟨rfl, rfl⟩)
  go_ret
  exact ⟨rfl, rfl⟩

/-- Within the ending: the byte is the ending's, and not the last one. -/
theorem clo1_more (w : World) (B r : Nat) (b kept least most : Int) (m : Nat) (has keep : Value) (ending : ByteArray) (nextv : Value)
    (h : Clo w B r 1 kept m least most has keep ending nextv) (hlt : m < ending.size) (heq : b = (ending[m]'hlt).toNat) (hmore : m + 1 < ending.size) (hbig : ending.size ≤ 1000) :
    Calls Tryz.prog 177 (cloArgs b B) w fun e w' => e = .returned (cloV B) ∧ w' = w.setCell ⟨B + 6, 0, none⟩ (.int .i64 ((m : Int) + 1)) := by
  obtain ⟨c0, c10, c11, c12, c13, c2, c3, c4, c5, c6, c7, f4, f5, f6⟩ := h.cells
  clear h
  subst heq
  unfold cloV at c7 ⊢
  go_enter Tryz.func177, Tryz.ntmps177
  go_wp2
  go_ret
  exact ⟨rfl, rfl⟩

/-- Within the ending: the last byte of it: what comes next is made. -/
theorem clo1_next (w : World) (B r : Nat) (b kept least most : Int) (m : Nat) (has keep : Value) (ending : ByteArray) (nf : Nat) (nfirst : Array Value) (R : Value → World → Prop)
    (h : Clo w B r 1 kept m least most has keep ending (.func (.func nf) nfirst #[])) (hlt : m < ending.size) (heq : b = (ending[m]'hlt).toNat) (hlast : ending.size ≤ m + 1) (hbig : m ≤ 1000)
    (hent : ∀ (args : Array Value) (w : World), (callFunc nf args).run Tryz.prog w = .ok (.enter nf args) w)
    (hnext : Hid (Calls Tryz.prog nf nfirst (w.setCell ⟨B + 6, 0, none⟩ (.int .i64 ((m : Int) + 1))) fun e w' => ∃ v, e = .returned v ∧ R v w')) :
    Calls Tryz.prog 177 (cloArgs b B) w fun e w' => ∃ v, e = .returned v ∧ R v w' := by
  obtain ⟨c0, c10, c11, c12, c13, c2, c3, c4, c5, c6, c7, f4, f5, f6⟩ := h.cells
  clear h
  subst heq
  go_enter Tryz.func177, Tryz.ntmps177
  go_wp2_with fail
  refine hnext.out.mono ?_
  rintro e w' ⟨v, rfl, hR⟩
  clear c0 c10 c11 c12 c13 c2 c3 c4 c5 c6 c7 f4 f5 f6 hnext
  go_wp2
  go_ret
  exact ⟨v, rfl, hR⟩

/-- A function's number, entered. -/
abbrev Ent (f : Nat) : Prop := ∀ (args : Array Value) (w : World), (callFunc f args).run Tryz.prog w = .ok (.enter f args) w

/-- The run is over at the byte b: there is no more room, or the byte is not of its class. -/
def RunOver (b kept most : Int) (has : Value) : Prop :=
  most ≤ kept ∨ (kept < most ∧ ∃ hf, has = .func (.func hf) #[] #[] ∧ Ent hf ∧ Hid (∀ W : World, Calls Tryz.prog hf #[.int .u8 b] W fun e w' => e = .returned (.bool false) ∧ w' = W))

/-- The run is over, and it is too short: it is wrong. -/
theorem clo0_short (w : World) (B r : Nat) (b kept least most : Int) (met : Int) (has keep : Value) (ending : ByteArray) (nextv v3 : Value)
    (h : Clo w B r 0 kept met least most has keep ending nextv) (ho : RunOver b kept most has) (hs : kept < least) (h3 : w.cell? ⟨r, 3, none⟩ = some v3) (f3 : w.frozen? ⟨r, 3, none⟩ = false) :
    Calls Tryz.prog 177 (cloArgs b B) w fun e w' => e = .returned .nilFunc ∧ w' = w.setCell ⟨r, 3, none⟩ (.int .i64 1) := by
  obtain ⟨c0, c10, c11, c12, c13, c2, c3, c4, c5, c6, c7, f4, f5, f6⟩ := h.cells
  clear h
  rcases ho with hk | ⟨hk, hf, rfl, henth, hhas⟩
  · go_enter Tryz.func177, Tryz.ntmps177
    go_wp2_with (first | (go_at_call 176; refine (fail_any _ _ _ v3 h3 f3).mono ?_; rintro e w' ⟨rfl, rfl⟩))
    go_ret
    exact ⟨rfl, rfl⟩
  · go_enter Tryz.func177, Tryz.ntmps177
    go_wp2_with (first | (go_at_call 176; refine (fail_any _ _ _ v3 h3 f3).mono ?_; rintro e w' ⟨rfl, rfl⟩) | (refine (hhas.out _).mono ?_; rintro e w' ⟨rfl, rfl⟩))
    go_ret
    exact ⟨rfl, rfl⟩

/-- The run is over; the byte is not the ending's first: it is wrong. -/
theorem clo0_bad (w : World) (B r : Nat) (b kept least most : Int) (m : Nat) (has keep : Value) (ending : ByteArray) (nextv v3 : Value)
    (h : Clo w B r 0 kept m least most has keep ending nextv) (ho : RunOver b kept most has) (hs : least ≤ kept) (hlt : m < ending.size) (hne : b ≠ (ending[m]'hlt).toNat) (h3 : w.cell? ⟨r, 3, none⟩ = some v3) (f3 : w.frozen? ⟨r, 3, none⟩ = false) (hr : r ≠ B + 4) :
    Calls Tryz.prog 177 (cloArgs b B) w fun e w' => e = .returned .nilFunc ∧ w' = (w.setCell ⟨B + 4, 0, none⟩ (.int .i64 1)).setCell ⟨r, 3, none⟩ (.int .i64 1) := by
  obtain ⟨c0, c10, c11, c12, c13, c2, c3, c4, c5, c6, c7, f4, f5, f6⟩ := h.cells
  clear h
  have h3' : (w.setCell ⟨B + 4, 0, none⟩ (.int .i64 1)).cell? ⟨r, 3, none⟩ = some v3 := by rw [World.cell?_setCell_other _ _ _ _ (by simp)]; exact h3
  have f3' : (w.setCell ⟨B + 4, 0, none⟩ (.int .i64 1)).frozen? ⟨r, 3, none⟩ = false := by rw [World.frozen?_setCell]; exact f3
  rcases ho with hk | ⟨hk, hf, rfl, henth, hhas⟩
  · go_enter Tryz.func177, Tryz.ntmps177
    go_wp2_with (first | (go_at_call 176; refine (fail_any _ _ _ v3 h3' f3').mono ?_; rintro e w' ⟨rfl, rfl⟩))
    go_ret
    exact ⟨rfl, rfl⟩
  · go_enter Tryz.func177, Tryz.ntmps177
    go_wp2_with (first | (go_at_call 176; refine (fail_any _ _ _ v3 h3' f3').mono ?_; rintro e w' ⟨rfl, rfl⟩) | (refine (hhas.out _).mono ?_; rintro e w' ⟨rfl, rfl⟩))
    go_ret
    exact ⟨rfl, rfl⟩

/-- The run is over; the byte is the ending's, and not its last. -/
theorem clo0_more (w : World) (B r : Nat) (b kept least most : Int) (m : Nat) (has keep : Value) (ending : ByteArray) (nextv : Value)
    (h : Clo w B r 0 kept m least most has keep ending nextv) (ho : RunOver b kept most has) (hs : least ≤ kept) (hlt : m < ending.size) (heq : b = (ending[m]'hlt).toNat) (hmore : m + 1 < ending.size) (hbig : ending.size ≤ 1000) :
    Calls Tryz.prog 177 (cloArgs b B) w fun e w' => e = .returned (cloV B) ∧ w' = (w.setCell ⟨B + 4, 0, none⟩ (.int .i64 1)).setCell ⟨B + 6, 0, none⟩ (.int .i64 ((m : Int) + 1)) := by
  obtain ⟨c0, c10, c11, c12, c13, c2, c3, c4, c5, c6, c7, f4, f5, f6⟩ := h.cells
  clear h
  subst heq
  unfold cloV at c7 ⊢
  rcases ho with hk | ⟨hk, hf, rfl, henth, hhas⟩
  · go_enter Tryz.func177, Tryz.ntmps177
    go_wp2_with fail
    go_ret
    exact ⟨rfl, rfl⟩
  · go_enter Tryz.func177, Tryz.ntmps177
    go_wp2_with (refine (hhas.out _).mono ?_; rintro e w' ⟨rfl, rfl⟩)
    go_ret
    exact ⟨rfl, rfl⟩

/-- The run is over; the byte is the ending, all of it: what comes next is made. -/
theorem clo0_next (w : World) (B r : Nat) (b kept least most : Int) (m : Nat) (has keep : Value) (ending : ByteArray) (nf : Nat) (nfirst : Array Value) (R : Value → World → Prop)
    (h : Clo w B r 0 kept m least most has keep ending (.func (.func nf) nfirst #[])) (ho : RunOver b kept most has) (hs : least ≤ kept) (hlt : m < ending.size) (heq : b = (ending[m]'hlt).toNat) (hlast : ending.size ≤ m + 1) (hbig : m ≤ 1000) (hent : Ent nf)
    (hnext : Hid (Calls Tryz.prog nf nfirst ((w.setCell ⟨B + 4, 0, none⟩ (.int .i64 1)).setCell ⟨B + 6, 0, none⟩ (.int .i64 ((m : Int) + 1))) fun e w' => ∃ v, e = .returned v ∧ R v w')) :
    Calls Tryz.prog 177 (cloArgs b B) w fun e w' => ∃ v, e = .returned v ∧ R v w' := by
  obtain ⟨c0, c10, c11, c12, c13, c2, c3, c4, c5, c6, c7, f4, f5, f6⟩ := h.cells
  clear h
  subst heq
  rcases ho with hk | ⟨hk, hf, rfl, henth, hhas⟩
  · go_enter Tryz.func177, Tryz.ntmps177
    go_wp2_with fail
    refine hnext.out.mono ?_
    rintro e w' ⟨v, rfl, hR⟩
    clear c0 c10 c11 c12 c13 c2 c3 c4 c5 c6 c7 f4 f5 f6 hnext
    go_wp2
    go_ret
    exact ⟨v, rfl, hR⟩
  · go_enter Tryz.func177, Tryz.ntmps177
    go_wp2_with (refine (hhas.out _).mono ?_; rintro e w' ⟨rfl, rfl⟩)
    refine hnext.out.mono ?_
    rintro e w' ⟨v, rfl, hR⟩
    clear c0 c10 c11 c12 c13 c2 c3 c4 c5 c6 c7 f4 f5 f6 hnext
    go_wp2
    go_ret
    exact ⟨v, rfl, hR⟩


end Go.Proofs.YtiiapfkcmdkkoaaGreatDoor
