import Derived.Test.YtohoddhegkjehaaGreatDoorA1
import Derived.Test.YtohoddhegkjehaaGreatDoorA0
/-
  Package request: what makes states (state.go: piece, exactly; fail), with the worlds written out.
-/
namespace Go.Proofs.YtohoddhegkjehaaGreatDoor
open Go.RowKit

/-- The closure that 'piece' makes, its eight variables in the blocks from B on. -/
def cloV (B : Nat) : Value := .func (.func 111) #[] #[.pointer (some ⟨B + 4, 0, none⟩), .pointer (some ⟨B + 5, 0, none⟩), .pointer (some ⟨B + 1, 0, none⟩), .pointer (some ⟨B + 7, 0, none⟩), .pointer (some ⟨B, 0, none⟩), .pointer (some ⟨B + 2, 0, none⟩), .pointer (some ⟨B + 6, 0, none⟩), .pointer (some ⟨B + 3, 0, none⟩)]

/-- The world behind 'piece'. -/
def pieceW (w : World) (rv : Value) (least most : Int) (has keep : Value) (ending : ByteArray) (nextv : Value) : World :=
  (((((((w.alloc (.cells #[rv] 147)).alloc (.cells #[.int .i64 least, .int .i64 most, has, keep] 163)).alloc (.cells #[.string ending] 9)).alloc (.cells #[nextv] 158)).alloc (.cells #[.int .i64 0] 3)).alloc (.cells #[.int .i64 0] 3)).alloc (.cells #[.int .i64 0] 3)).alloc (.cells #[cloV w.heap.size] 152)

set_option maxHeartbeats 400000 in
theorem fail_any (r : Nat) (f : Int) (w : World) (v : Value) (h3 : w.cell? ⟨r, 3, none⟩ = some v) (f3 : w.frozen? ⟨r, 3, none⟩ = false) :
    Calls Tryz.prog 110 #[.pointer (some ⟨r, 0, none⟩), .int .i64 f] w fun e w' => e = .returned .nilFunc ∧ w' = w.setCell ⟨r, 3, none⟩ (.int .i64 f) := by
  go_enter Tryz.func110, Tryz.ntmps110
  go_wp2
  go_ret
  exact ⟨rfl, rfl⟩

set_option maxHeartbeats 400000 in
theorem piece_any (r : Nat) (least most : Int) (hf : Nat) (ko : Addr) (ending : ByteArray) (nf : Fn) (nfirst : Array Value) (w : World) :
    Calls Tryz.prog 107 #[.pointer (some ⟨r, 0, none⟩), .agg #[.int .i64 least, .int .i64 most, .func (.func hf) #[] #[], .pointer (some ko)], .string ending, .func nf nfirst #[]] w fun e w' => e = .returned (cloV w.heap.size) ∧ w' = pieceW w (.pointer (some ⟨r, 0, none⟩)) least most (.func (.func hf) #[] #[]) (.pointer (some ko)) ending (.func nf nfirst #[]) := by
  have hmf : ∀ (fn : Fn) (first cap : Array Value) (w : World), (Instr.makeFunc fn first cap).run Tryz.prog w = .ok (.func fn first cap) w := fun _ _ _ _ => rfl
  go_enter Tryz.func107, Tryz.ntmps107
  go_wp2
  go_ret
  exact ⟨rfl, rfl⟩

set_option maxHeartbeats 400000 in
theorem piece_bare (r : Nat) (ending : ByteArray) (nf : Fn) (nfirst : Array Value) (w : World) :
    Calls Tryz.prog 107 #[.pointer (some ⟨r, 0, none⟩), .agg #[.int .i64 0, .int .i64 0, .nilFunc, .pointer none], .string ending, .func nf nfirst #[]] w fun e w' => e = .returned (cloV w.heap.size) ∧ w' = pieceW w (.pointer (some ⟨r, 0, none⟩)) 0 0 .nilFunc (.pointer none) ending (.func nf nfirst #[]) := by
  have hmf : ∀ (fn : Fn) (first cap : Array Value) (w : World), (Instr.makeFunc fn first cap).run Tryz.prog w = .ok (.func fn first cap) w := fun _ _ _ _ => rfl
  go_enter Tryz.func107, Tryz.ntmps107
  go_wp2
  go_ret
  exact ⟨rfl, rfl⟩

set_option maxHeartbeats 400000 in
theorem exactly_any (r : Nat) (ending : ByteArray) (nf : Fn) (nfirst : Array Value) (w : World) :
    Calls Tryz.prog 116 #[.pointer (some ⟨r, 0, none⟩), .string ending, .func nf nfirst #[]] w fun e w' => e = .returned (cloV w.heap.size) ∧ w' = pieceW w (.pointer (some ⟨r, 0, none⟩)) 0 0 .nilFunc (.pointer none) ending (.func nf nfirst #[]) := by
  go_enter Tryz.func116, Tryz.ntmps116
  go_wp2_with (go_at_call 107; refine (piece_bare _ _ _ _ _).mono ?_; rintro e w' ⟨rfl, rfl⟩)
  go_ret
  exact ⟨rfl, rfl⟩

set_option maxHeartbeats 400000 in
theorem readMethod_any (r : Nat) (w : World) :
    Calls Tryz.prog 104 #[.pointer (some ⟨r, 0, none⟩)] w fun e w' => e = .returned (cloV w.heap.size) ∧ w' = pieceW w (.pointer (some ⟨r, 0, none⟩)) 1 8 (.func (.func 108) #[] #[]) (.pointer (some ⟨r, 4, none⟩)) ⟨#[32, 47]⟩ (.func (.func 109) #[.pointer (some ⟨r, 0, none⟩)] #[]) := by
  have hmf : ∀ (fn : Fn) (first cap : Array Value) (w : World), (Instr.makeFunc fn first cap).run Tryz.prog w = .ok (.func fn first cap) w := fun _ _ _ _ => rfl
  go_enter Tryz.func104, Tryz.ntmps104
  go_wp2_with (go_at_call 107; refine (piece_any _ _ _ _ _ _ _ _ _).mono ?_; rintro e w' ⟨rfl, rfl⟩)
  go_ret
  exact ⟨rfl, rfl⟩

set_option maxHeartbeats 400000 in
theorem readPath_any (r : Nat) (w : World) :
    Calls Tryz.prog 109 #[.pointer (some ⟨r, 0, none⟩)] w fun e w' => e = .returned (cloV w.heap.size) ∧ w' = pieceW w (.pointer (some ⟨r, 0, none⟩)) 0 30 (.func (.func 112) #[] #[]) (.pointer (some ⟨r, 5, none⟩)) ⟨#[32, 72, 84, 84, 80, 47, 49, 46, 49, 13, 10]⟩ (.func (.func 113) #[.pointer (some ⟨r, 0, none⟩)] #[]) := by
  have hmf : ∀ (fn : Fn) (first cap : Array Value) (w : World), (Instr.makeFunc fn first cap).run Tryz.prog w = .ok (.func fn first cap) w := fun _ _ _ _ => rfl
  go_enter Tryz.func109, Tryz.ntmps109
  go_wp2_with (go_at_call 107; refine (piece_any _ _ _ _ _ _ _ _ _).mono ?_; rintro e w' ⟨rfl, rfl⟩)
  go_ret
  exact ⟨rfl, rfl⟩

set_option maxHeartbeats 400000 in
theorem readValue_any (r : Nat) (w : World) :
    Calls Tryz.prog 122 #[.pointer (some ⟨r, 0, none⟩)] w fun e w' => e = .returned (cloV w.heap.size) ∧ w' = pieceW w (.pointer (some ⟨r, 0, none⟩)) 0 200 (.func (.func 125) #[] #[]) (.pointer (some ⟨r, 7, none⟩)) ⟨#[13, 10]⟩ (.func (.func 126) #[.pointer (some ⟨r, 0, none⟩)] #[]) := by
  have hmf : ∀ (fn : Fn) (first cap : Array Value) (w : World), (Instr.makeFunc fn first cap).run Tryz.prog w = .ok (.func fn first cap) w := fun _ _ _ _ => rfl
  go_enter Tryz.func122, Tryz.ntmps122
  go_wp2_with (go_at_call 107; refine (piece_any _ _ _ _ _ _ _ _ _).mono ?_; rintro e w' ⟨rfl, rfl⟩)
  go_ret
  exact ⟨rfl, rfl⟩

set_option maxHeartbeats 400000 in
theorem readFields_any (r : Nat) (w : World) :
    Calls Tryz.prog 113 #[.pointer (some ⟨r, 0, none⟩)] w fun e w' => e = .returned (.func (.func 115) #[] #[.pointer (some ⟨w.heap.size, 0, none⟩)]) ∧ w' = w.alloc (.cells #[.pointer (some ⟨r, 0, none⟩)] 147) := by
  have hmf : ∀ (fn : Fn) (first cap : Array Value) (w : World), (Instr.makeFunc fn first cap).run Tryz.prog w = .ok (.func fn first cap) w := fun _ _ _ _ => rfl
  go_enter Tryz.func113, Tryz.ntmps113
  go_wp2
  go_ret
  exact ⟨rfl, rfl⟩

set_option maxHeartbeats 400000 in
theorem over_any (w : World) : Calls Tryz.prog 135 #[] w fun e w' => e = .returned .nilFunc ∧ w' = w := by
  go_enter Tryz.func135, Tryz.ntmps135
  go_wp2
  go_ret
  exact ⟨rfl, rfl⟩

set_option maxHeartbeats 400000 in
theorem readName_any (r : Nat) (w : World) (v6 v7 : Value) (h6 : w.cell? ⟨r, 6, none⟩ = some v6) (f6 : w.frozen? ⟨r, 6, none⟩ = false) (h7 : w.cell? ⟨r, 7, none⟩ = some v7) (f7 : w.frozen? ⟨r, 7, none⟩ = false) :
    Calls Tryz.prog 118 #[.pointer (some ⟨r, 0, none⟩)] w fun e w' => e = .returned (cloV w.heap.size) ∧ w' = pieceW ((w.setCell ⟨r, 6, none⟩ (.slice none 0 0)).setCell ⟨r, 7, none⟩ (.slice none 0 0)) (.pointer (some ⟨r, 0, none⟩)) 1 20 (.func (.func 114) #[] #[]) (.pointer (some ⟨r, 6, none⟩)) ⟨#[58]⟩ (.func (.func 122) #[.pointer (some ⟨r, 0, none⟩)] #[]) := by
  have hmf : ∀ (fn : Fn) (first cap : Array Value) (w : World), (Instr.makeFunc fn first cap).run Tryz.prog w = .ok (.func fn first cap) w := fun _ _ _ _ => rfl
  go_enter Tryz.func118, Tryz.ntmps118
  go_wp2_with (go_at_call 107; refine (piece_any _ _ _ _ _ _ _ _ _).mono ?_; rintro e w' ⟨rfl, rfl⟩)
  go_ret
  exact ⟨by simp, rfl⟩

set_option maxHeartbeats 400000 in
theorem readChunk_any (r : Nat) (w : World) (v : Value) (h : w.cell? ⟨r, 11, none⟩ = some v) (f : w.frozen? ⟨r, 11, none⟩ = false) :
    Calls Tryz.prog 123 #[.pointer (some ⟨r, 0, none⟩)] w fun e w' => e = .returned (cloV w.heap.size) ∧ w' = pieceW (w.setCell ⟨r, 11, none⟩ (.slice none 0 0)) (.pointer (some ⟨r, 0, none⟩)) 1 4 (.func (.func 127) #[] #[]) (.pointer (some ⟨r, 11, none⟩)) ⟨#[13, 10]⟩ (.func (.func 128) #[.pointer (some ⟨r, 0, none⟩)] #[]) := by
  have hmf : ∀ (fn : Fn) (first cap : Array Value) (w : World), (Instr.makeFunc fn first cap).run Tryz.prog w = .ok (.func fn first cap) w := fun _ _ _ _ => rfl
  go_enter Tryz.func123, Tryz.ntmps123
  go_wp2_with (go_at_call 107; refine (piece_any _ _ _ _ _ _ _ _ _).mono ?_; rintro e w' ⟨rfl, rfl⟩)
  go_ret
  exact ⟨by simp, rfl⟩

end Go.Proofs.YtohoddhegkjehaaGreatDoor
